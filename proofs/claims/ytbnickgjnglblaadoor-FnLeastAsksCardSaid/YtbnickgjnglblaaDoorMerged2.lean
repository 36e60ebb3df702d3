/- Texts of a proof, merged: Tables, MajM, Helpers, MajS. -/
import Derived.Test.YtbnickgjnglblaaDoorPeople
import Derived.Test.YtbnickgjnglblaaDoorMerged0
import Derived.Lib.SmallJoins
import Derived.Deep.RegionHeld3
import Derived.Deep.RegionWith
import Derived.Deep.Cut
/- Contracts of chapter 1's functions: tables and lists of worlds, in the program and in the reference model. -/
namespace Go.Proofs.YtbnickgjnglblaaDoor
open Go.RowKit

/-- the worlds of a table; none for what is no table -/
def wlp (p t : Int) : List Nat := if tOk p t = true then wl t.toNat (2 ^ p.toNat) else []
theorem wlp_no {p t : Int} (h : tOk p t = false) : wlp p t = [] := by simp [wlp, h]
theorem wlp_yes {p t : Int} (h : tOk p t = true) : wlp p t = wl t.toNat (2 ^ p.toNat) := by simp [wlp, h]
theorem wl_all_le (T N : Nat) : ∀ z ∈ wl T N, z < N := fun _ hz => (wl_mem.1 hz).1

set_option maxHeartbeats 400000 in
theorem implWorldsIn_yes (p : Int) (T N : Nat) (h : Hid (tOk p T = true)) (hN : Hid ((N : Int) = 2 ^ p.toNat)) (hN16 : N ≤ 16) (w : World) :
    Calls Tryd.prog 11 #[.int .i64 p, .int .i64 T] w fun e w' => ∃ v, e = .returned v ∧ w'.ownsRow w.heap.size 3 1 v (wl T N).length (vals (wl T N)) ∧ Below w.heap.size w w' := by
  obtain ⟨i0, hi, hz0, hz1, hz2⟩ := info_parts Tryd.info3
  have hT := tOk_lt h.out
  obtain ⟨hp1, hp2, _, hT2⟩ := hT
  go_enter Tryd.func11, Tryd.ntmps11
  go_wp2_with fail
  refine (implTableOk _ _ _).mono ?_
  rintro e w' ⟨rfl, rfl⟩
  rw [h.out]
  go_wp2_with fail
  refine (implWorldCount p N hN hp1 hp2 _).mono ?_
  rintro e w' ⟨rfl, rfl⟩
  go_wp2
  have Hi := Lib.hid hi; clear hi
  have Hz0 := Lib.hid hz0; clear hz0
  have Hz1 := Lib.hid hz1; clear hz1
  have Hz2 := Lib.hid hz2; clear hz2
  obtain ⟨wo, rfl⟩ : ∃ wo : World, wo = w := ⟨_, rfl⟩
  go_loopw [5, 6, 13] (fun v _ i wr => ∃ k : Nat, k ≤ N ∧ i = .int .i64 k ∧ wr.ownsRow wo.heap.size 3 1 v (wl T k).length (vals (wl T k)) ∧ Below wo.heap.size wo wr)
    (fun _ _ i _ => N - (intOf i).toNat)
  case atStart => exact ⟨0, Nat.zero_le _, rfl, World.ownsRow_nil _ _ _ _, Below.refl _ _⟩
  case round =>
    obtain ⟨k, hk, rfl, hown, hbel⟩ := hrel
    by_cases hlt : k < N
    · by_cases hbit : T.testBit k = true
      · have htest := and_one_yes (by omega) hbit
        go_wp2_with (at_builtin; refine wpList_append_own _ rfl _ _ 26 rfl wo.heap.size 3 i0 (.int .i64 0) 1 8 Tryd.underlying26 Hi.out Hz0.out Hz1.out Hz2.out rfl (by decide) _ _ _ rfl (hown.alloc _) ⟨wr.heap.size, 0, none⟩ 1 1 [.int .i64 k] rfl rfl ?c1 ?c2 ?c3 ?c4 ?c5 ?_)
        case c1 => exact (cell_one_new _ _ _)
        case c2 => simp [Value.oneCell']
        case c3 => have := wl_le T k; unfold maxLen; omega
        case c4 => have := wl_le T k; omega
        case c5 => have := hbel.size; simp; omega
        intro v' w1 hown' hgrow _
        have hs := wl_succ T k
        rw [if_pos hbit] at hs
        have hb1 : Below wo.heap.size wo w1 := (hbel.alloc hbel.size _).grown hgrow (by simp; have := hbel.size; omega) (fun k hk => (hown.lt k hk).1)
        have ho1 : w1.ownsRow wo.heap.size 3 1 v' (wl T (k+1)).length (vals (wl T (k+1))) := by
          rw [hs]; simpa [vals] using hown'
        clear hs hown' hgrow hown
        go_wp2
        go_roundw
        case rel => exact ⟨k + 1, by omega, by go_num, ho1, hb1⟩
        case measure => simp [intOf]; omega
      · have hbit' : T.testBit k = false := by simpa using hbit
        have htest := and_one_no (by omega) hbit'
        have hs := wl_succ T k
        rw [if_neg hbit, List.append_nil] at hs
        have ho1 : wr.ownsRow wo.heap.size 3 1 u5 (wl T (k+1)).length (vals (wl T (k+1))) := by
          rw [hs]; exact hown
        clear hs hown
        go_wp2
        go_roundw
        case rel => exact ⟨k + 1, by omega, by go_num, ho1, hbel⟩
        case measure => simp [intOf]; omega
    · have : k = N := by omega
      subst this
      go_wp2
      go_ret
      exact ⟨_, rfl, hown, hbel⟩

set_option maxHeartbeats 400000 in
theorem implWorldsIn_no (p x : Int) (h : Hid (tOk p x = false)) (w : World) :
    Calls Tryd.prog 11 #[.int .i64 p, .int .i64 x] w fun e w' => e = .returned (.slice none 0 0) ∧ w = w' := by
  go_enter Tryd.func11, Tryd.ntmps11
  go_wp2_with fail
  refine (implTableOk _ _ _).mono ?_
  rintro e w' ⟨rfl, rfl⟩
  rw [h.out]
  go_wp2
  go_ret
  exact ⟨rfl, rfl⟩

theorem implWorldsIn (p t : Int) (w : World) :
    Calls Tryd.prog 11 #[.int .i64 p, .int .i64 t] w fun e w' => ∃ v, e = .returned v ∧ w'.ownsRow w.heap.size 3 1 v (wlp p t).length (vals (wlp p t)) ∧ Below w.heap.size w w' := by
  by_cases h : tOk p t = true
  · obtain ⟨hp1, hp2, h0, h1⟩ := tOk_lt h
    obtain ⟨T, rfl⟩ := Int.eq_ofNat_of_zero_le h0
    rw [wlp_yes h]
    refine implWorldsIn_yes p T (2 ^ p.toNat) h (cnt_of p) ?_ w
    rcases p_cases hp1 hp2 with rfl | rfl | rfl | rfl <;> decide
  · have h' : tOk p t = false := by simpa using h
    rw [wlp_no h']
    refine (implWorldsIn_no p t h' w).mono ?_
    rintro e w' ⟨rfl, rfl⟩
    exact ⟨_, rfl, World.ownsRow_nil _ _ _ _, Below.refl _ _⟩


/-- the table of some worlds; -1 if one of them is none -/
def allW (p : Int) (zs : List Int) : Bool := zs.all fun z => wOk p z
def tow (p : Int) (zs : List Int) : Int := if pOk p && allW p zs then (tabOf (zs.map Int.toNat) : Int) else -1
theorem tow_bad {p : Int} {zs : List Int} {k : Nat} (hk : k < zs.length) (h : wOk p (zs.getD k 0) = false) : tow p zs = -1 := by
  have hf : allW p zs = false := by
    rw [allW, List.all_eq_false]
    refine ⟨zs.getD k 0, ?_, by rw [h]; decide⟩
    have e : zs.getD k 0 = zs[k] := by simp [List.getD, hk]
    rw [e]; exact List.getElem_mem hk
  simp [tow, hf]
theorem tow_no {p : Int} {zs : List Int} (h : pOk p = false) : tow p zs = -1 := by simp [tow, h]
theorem tow_yes {p : Int} {zs : List Int} (h : pOk p = true) (h' : ∀ j, j < zs.length → wOk p (zs.getD j 0) = true) : tow p zs = (tabOf (zs.map Int.toNat) : Int) := by
  have : allW p zs = true := by
    rw [allW, List.all_eq_true]
    intro z hz
    obtain ⟨j, hj, rfl⟩ := List.getElem_of_mem hz
    have := h' j hj
    rwa [show zs.getD j 0 = zs[j] from by simp [List.getD, hj]] at this
  simp [tow, h, this]
/-- the table of the first k worlds -/
def tabK (zs : List Int) (k : Nat) : Nat := tabOf ((zs.take k).map Int.toNat)
theorem tabK_succ {zs : List Int} {k : Nat} (hk : k < zs.length) : tabK zs (k + 1) = tabK zs k ||| 1 <<< (zs.getD k 0).toNat := by
  unfold tabK
  rw [List.take_succ_eq_append_getElem hk, List.map_append]
  have e : zs.getD k 0 = zs[k] := by simp [List.getD, hk]
  rw [e]
  exact tabOf_snoc _ _
theorem tabK_lt {p : Int} {zs : List Int} {k : Nat} (h : ∀ j, j < k → wOk p (zs.getD j 0) = true) (hk : k ≤ zs.length) : tabK zs k < 65536 := by
  refine tabOf_lt _ 16 fun i hi => ?_
  obtain ⟨z, hz, rfl⟩ := List.mem_map.1 hi
  obtain ⟨j, hj, rfl⟩ := List.getElem_of_mem hz
  have hj' : j < k := by simp at hj; omega
  have := h j hj'
  have e : zs.getD j 0 = (zs.take k)[j] := by simp [List.getD, show j < zs.length by omega]
  rw [e] at this
  have := wOk_lt this
  omega
theorem or_shl {t x : Nat} (ht : t < 65536) (hx : x < 16) : bits BinOp.or IntKind.i64 (t : Int) (wrap64 (2 ^ min x 64)) = ((t ||| 1 <<< x : Nat) : Int) := by
  have e : (2 : Int) ^ min x 64 = ((1 <<< x : Nat) : Int) := by
    rw [Nat.min_eq_left (by omega), Nat.one_shiftLeft]; simp
  have hl : 1 <<< x ≤ 65536 := by
    rw [Nat.one_shiftLeft]; exact Nat.le_trans (Nat.pow_le_pow_right (by decide) (show x ≤ 16 by omega)) (by decide)
  rw [e]
  generalize 1 <<< x = y at *
  have hw : wrap64 (y : Int) = (y : Int) := by unfold wrap64; omega
  rw [hw, bits_or_nat _ _ (by omega) (by omega)]

theorem or_shlN {t x N : Nat} (ht : t < 2 ^ N) (hN : N ≤ 16) (hx : x < N) : bits BinOp.or IntKind.i64 (t : Int) (wrap64 (2 ^ min x 64)) = ((t ||| 1 <<< x : Nat) : Int) :=
  or_shl (Nat.lt_of_lt_of_le ht (by exact Nat.pow_le_pow_right (by decide) hN)) (by omega)
theorem below_drewN {B : Nat} {a w : World} (h : Below B a w) (n : Nat) : Below B a (w.drewN n) := h.trans ⟨rfl, rfl, rfl, Nat.le_refl _, fun _ _ => rfl⟩

set_option maxHeartbeats 1000000 in
theorem implTableOfWorlds (p : Int) (zs : List Int) (B : Nat) (v : Value) (w : World) (hr : RdInts w B v zs) :
    Calls Tryd.prog 13 #[.int .i64 p, v] w fun e w' => e = .returned (.int .i64 (tow p zs)) ∧ w = w' := by
  obtain ⟨ao, cap, rfl, hl, hm, hc0⟩ := hr
  have hc := Lib.hid hc0; clear hc0
  unfold maxLen at hm
  by_cases hp : pOk p = true
  · have Hp := Lib.hid hp; clear hp
    go_enter Tryd.func13, Tryd.ntmps13
    go_wp2_with fail
    refine (implPeopleOk _ _).mono ?_
    rintro e w' ⟨rfl, rfl⟩
    rw [Hp.out]
    go_wp2
    go_loop [5, 7, 13] (fun t _ i => ∃ k : Nat, k ≤ zs.length ∧ i = .int .i64 k ∧ t = .int .i64 (tabK zs k) ∧ Hid (∀ j, j < k → wOk p (zs.getD j 0) = true)) (fun _ _ i => zs.length - (intOf i).toNat)
    case atStart => exact ⟨0, Nat.zero_le _, rfl, rfl, fun j hj => by omega⟩
    case round =>
      obtain ⟨k, hk, rfl, rfl, hall⟩ := hrel
      by_cases hlt : k < zs.length
      · obtain ⟨b, off, rfl, hb, hcell⟩ := hc.out k hlt
        have Hl := Lib.hid (tabK_lt hall.out hk)
        have Hs := Lib.hid (tabK_succ hlt)
        by_cases hw : wOk p (zs.getD k 0) = true
        · have Hw := Lib.hid hw; clear hw
          have hx := wOk_lt Hw.out
          obtain ⟨_, _, hx0, hx1⟩ := hx
          obtain ⟨x, hxe⟩ := Int.eq_ofNat_of_zero_le hx0
          have Hor := Lib.hid (or_shl Hl.out (show x < 16 by omega))
          rw [hxe] at hcell
          have Hxe := Lib.hid hxe; clear hxe
          generalize tabK zs k = t at *
          go_wp2_with fail
          refine (implWorldOk _ _ _).mono ?_
          rintro e w' ⟨rfl, rfl⟩
          rw [show wOk p x = true from by rw [← Hxe.out]; exact Hw.out]
          go_wp2
          go_round
          case rel => exact ⟨k + 1, by omega, by go_num, by rw [Hor.out, Hs.out, Hxe.out]; rfl, fun j hj => by
            by_cases hjk : j < k
            · exact hall.out j hjk
            · obtain rfl : j = k := by omega
              exact Hw.out⟩
          case measure => simp [intOf]; omega
        · have hw' : Hid (wOk p (zs.getD k 0) = false) := by simpa [Hid] using hw
          clear hw
          have Hbad := Lib.hid (tow_bad hlt hw'.out)
          generalize zs.getD k 0 = z at *
          go_wp2_with fail
          refine (implWorldOk _ _ _).mono ?_
          rintro e w' ⟨rfl, rfl⟩
          rw [hw'.out]
          go_wp2
          go_ret
          exact ⟨ret_int (by rw [Hbad.out]), rfl⟩
      · obtain rfl : k = zs.length := by omega
        go_wp2
        go_ret
        exact ⟨ret_int (by rw [tow_yes Hp.out hall.out]; simp [tabK]), rfl⟩
  · have Hp : Hid (pOk p = false) := by simpa [Hid] using hp
    clear hp
    go_enter Tryd.func13, Tryd.ntmps13
    go_wp2_with fail
    refine (implPeopleOk _ _).mono ?_
    rintro e w' ⟨rfl, rfl⟩
    rw [Hp.out]
    go_wp2
    go_ret
    exact ⟨ret_int (by rw [tow_no Hp.out]), rfl⟩

set_option maxHeartbeats 400000 in
theorem specIn (n a b : Int) (w : World) :
    Calls Tryd.prog 31 #[.int .i64 n, .int .i64 a, .int .i64 b] w fun e w' => e = .returned (.bool (decide (a ≤ n ∧ n ≤ b))) ∧ w = w' := by
  by_cases h : a ≤ n
  all_goals
    go_enter Tryd.func31, Tryd.ntmps31
    go_wp2
    go_ret
    exact ⟨ret_bool (by rw [Bool.eq_iff_iff]; simp; omega), rfl⟩


/-! ### the opposite table -/
/-- the worlds of a table below n, each turned round -/
def turned (T n : Nat) (k : Nat) : Nat := tabOf ((wl T k).map fun i => n - 1 - i)
theorem turned_lt {T n k : Nat} (_hk : k ≤ n) (hn : 0 < n) : turned T n k < 2 ^ n :=
  tabOf_lt _ _ fun i hi => by obtain ⟨j, hj, rfl⟩ := List.mem_map.1 hi; omega
theorem turned_succ (T n k : Nat) : turned T n (k + 1) = if T.testBit k then turned T n k ||| 1 <<< (n - 1 - k) else turned T n k := by
  unfold turned
  rw [wl_succ]
  split
  · rw [List.map_append]; exact tabOf_snoc _ _
  · simp
def opt (p t : Int) : Int := if tOk p t = true then (turned t.toNat (2 ^ p.toNat) (2 ^ p.toNat) : Int) else -1

theorem or_turn {T N k : Nat} (hk : k < N) (hN : N ≤ 16) :
    bits BinOp.or IntKind.i64 (turned T N k : Int) (wrap64 (((T : Int) / 2 ^ k).tmod 2 * 2 ^ (N - 1 - k))) = (turned T N (k + 1) : Int) := by
  have ht : turned T N k < 65536 := Nat.lt_of_lt_of_le (turned_lt (Nat.le_of_lt hk) (by omega)) (by exact Nat.pow_le_pow_right (by decide) hN)
  have hl : 1 <<< (N - 1 - k) ≤ 65536 := by
    rw [Nat.one_shiftLeft]; exact Nat.le_trans (Nat.pow_le_pow_right (by decide) (show N - 1 - k ≤ 16 by omega)) (by decide)
  have e : (2 : Int) ^ (N - 1 - k) = ((1 <<< (N - 1 - k) : Nat) : Int) := by rw [Nat.one_shiftLeft]; simp
  rw [tmod_two_val, turned_succ, e]
  generalize 1 <<< (N - 1 - k) = y at *
  have hw : wrap64 (y : Int) = (y : Int) := by unfold wrap64; omega
  split
  · rw [Int.one_mul, hw, bits_or_nat _ _ (by omega) (by omega)]
  · rw [Int.zero_mul]
    have := bits_or_nat (turned T N k) 0 (by omega) (by decide)
    rw [show wrap64 0 = ((0 : Nat) : Int) from by unfold wrap64; decide, this, Nat.or_zero]

set_option maxHeartbeats 1000000 in
theorem specTurned (p : Int) (T N : Nat) (h1 : 1 ≤ p) (h2 : p ≤ 4) (hN : Hid ((N : Int) = 2 ^ p.toNat)) (w : World) :
    Calls Tryd.prog 37 #[.int .i64 p, .int .i64 T] w fun e w' => e = .returned (.int .i64 (turned T N N)) ∧ ∃ n, w.drewN n = w' := by
  have hNe := hN.out
  have hsh : wrap64 (2 ^ p.toNat) = (N : Int) := by rcases p_cases h1 h2 with rfl | rfl | rfl | rfl <;> (rw [hNe]; decide +kernel)
  have hN1 : 2 ≤ N ∧ N ≤ 16 := by rcases p_cases h1 h2 with rfl | rfl | rfl | rfl <;> (simp at hNe; omega)
  obtain ⟨hN2, hN16⟩ := hN1
  clear hNe
  go_enter Tryd.func37, Tryd.ntmps37
  go_wp2
  go_loopw [5, 6] (fun t i wr => ∃ k : Nat, k ≤ N ∧ i = .int .i64 k ∧ t = .int .i64 (turned T N k) ∧ ∃ n, w.drewN n = wr) (fun _ i _ => N - (intOf i).toNat)
  case atStart => exact ⟨0, Nat.zero_le _, rfl, rfl, 0, rfl⟩
  case round =>
    obtain ⟨k, hk, rfl, rfl, nd, rfl⟩ := hrel
    by_cases hlt : k < N
    · have Hor := Lib.hid (or_turn (T := T) hlt hN16)
      go_wp2_with fail
      go_quiet (fail)
      rw [Hor.out]
      go_wp2
      go_roundw
      case rel => exact ⟨k + 1, by omega, by go_num, rfl, _, rfl⟩
      case measure => simp [intOf]; omega
    · go_wp2
      go_ret
      obtain rfl : k = N := by omega
      exact ⟨rfl, nd, rfl⟩


theorem two_pow_N {p : Int} (h1 : 1 ≤ p) (h2 : p ≤ 4) : 2 ≤ 2 ^ p.toNat ∧ 2 ^ p.toNat ≤ 16 := by
  rcases p_cases h1 h2 with rfl | rfl | rfl | rfl <;> decide
theorem opt_no {p t : Int} (h : tOk p t = false) : opt p t = -1 := by simp [opt, h]
theorem opt_yes {p : Int} {T : Nat} (h : tOk p T = true) : opt p T = (turned T (2 ^ p.toNat) (2 ^ p.toNat) : Int) := by simp [opt, h]


/-- what impl.OppositeTable has come to after k worlds of a list -/
def turnK (N : Nat) (l : List Nat) (k : Nat) : Nat := tabOf ((l.take k).map fun i => N - 1 - i)
theorem turnK_succ {N : Nat} {l : List Nat} {k : Nat} (hk : k < l.length) : turnK N l (k + 1) = turnK N l k ||| 1 <<< (N - 1 - l[k]) := by
  unfold turnK
  rw [List.take_succ_eq_append_getElem hk, List.map_append]
  exact tabOf_snoc _ _
theorem turnK_lt {N : Nat} {l : List Nat} {k : Nat} (hN : 0 < N) : turnK N l k < 2 ^ N :=
  tabOf_lt _ _ fun i hi => by obtain ⟨j, hj, rfl⟩ := List.mem_map.1 hi; omega

set_option maxHeartbeats 1000000 in
theorem implOppositeTable (p t : Int) (w : World) :
    Calls Tryd.prog 19 #[.int .i64 p, .int .i64 t] w fun e w' => e = .returned (.int .i64 (opt p t)) ∧ Below w.heap.size w w' := by
  by_cases h : tOk p t = true
  · obtain ⟨h1, h2, h3, h4⟩ := tOk_lt h
    obtain ⟨T, rfl⟩ := Int.eq_ofNat_of_zero_le h3
    have H := Lib.hid h
    have Ho := Lib.hid (opt_yes h)
    have Hw := Lib.hid (wlp_yes h)
    have HN := cnt_of p
    obtain ⟨hN2, hN16⟩ := two_pow_N h1 h2
    have hwok : Hid (∀ x : Nat, x < 2 ^ p.toNat → wOk p x = true) := fun x hx => wOk_iff.2 ⟨h1, h2, by omega, by have := HN.out; rw [← this]; exact_mod_cast hx⟩
    clear h h3 h4
    generalize 2 ^ p.toNat = N at *
    go_enter Tryd.func19, Tryd.ntmps19
    go_wp2_with fail
    refine (implTableOk _ _ _).mono ?_
    rintro e w' ⟨rfl, rfl⟩
    rw [H.out]
    go_wp2_with fail
    refine (implWorldsIn _ _ _).mono ?_
    rintro e w1 ⟨v, rfl, hown, hbel⟩
    rw [Hw.out, Int.toNat_natCast] at hown
    have hwl := Lib.hid (wl_all_le T N)
    have hres : Hid (turnK N (wl T N) (wl T N).length = turned T N N) := by unfold turnK turned; rw [List.take_length]; rfl
    generalize wl T N = l at *
    rw [vals_nums, ← nums_length] at hown
    have hrd := RdInts.of_own hown
    obtain ⟨ao, cap, rfl, hl, hm, hc0⟩ := hrd
    have hc := Lib.hid hc0; clear hc0
    have hlen := nums_length l
    rw [hlen] at hl ⊢
    clear hown hlen
    unfold maxLen at hm
    go_wp2
    go_loop [5, 7, 16] (fun t _ i => ∃ k : Nat, k ≤ l.length ∧ i = .int .i64 k ∧ t = .int .i64 (turnK N l k)) (fun _ _ i => l.length - (intOf i).toNat)
    case atStart => exact ⟨0, Nat.zero_le _, rfl, rfl⟩
    case round =>
      obtain ⟨k, hk, rfl, rfl⟩ := hrel
      by_cases hlt : k < l.length
      · obtain ⟨b, off, rfl, hb, hcell⟩ := hc.out k (by rw [nums_length]; exact hlt)
        have hx : l[k] < N := hwl.out _ (List.getElem_mem hlt)
        have hg : (nums l).getD k 0 = (l[k] : Int) := by simp [nums, List.getD, hlt]
        rw [hg] at hcell
        clear hg
        have Hs := Lib.hid (turnK_succ (N := N) hlt)
        have Hl := Lib.hid (turnK_lt (N := N) (l := l) (k := k) (by omega))
        generalize l[k] = x at *
        have Hor := Lib.hid (or_shlN (t := turnK N l k) (x := N - 1 - x) Hl.out hN16 (by omega))
        rw [Nat.min_eq_left (show N - 1 - x ≤ 64 by omega)] at Hor
        generalize turnK N l k = t at *
        go_wp2_with fail
        refine (implOppositeWorld_yes p x N (hwok.out x hx) HN _).mono ?_
        rintro e w' ⟨rfl, rfl⟩
        rw [show ((N : Int) - 1 - (x : Int)) = ((N - 1 - x : Nat) : Int) from by omega]
        go_wp2
        go_round
        case rel => exact ⟨k + 1, by omega, by go_num, by rw [Hor.out, Hs.out]⟩
        case measure => simp [intOf]; omega
      · obtain rfl : k = l.length := by omega
        go_wp2
        go_ret
        exact ⟨ret_int (by rw [Ho.out, hres.out]), hbel⟩
  · have h' : tOk p t = false := by simpa using h
    refine (implOppositeTable_no p t h' w).mono ?_
    rintro e w' ⟨rfl, rfl⟩
    exact ⟨ret_int (by rw [opt_no h']), Below.refl _ _⟩

end Go.Proofs.YtbnickgjnglblaaDoor
/- Asking for a teller: the mathematics, without code. -/
namespace Go.Proofs.YtbnickgjnglblaaDoor
open Go.RowKit
/-! ### the first number for which something holds -/
def firstN (f : Nat → Bool) : Nat → Int
  | 0 => -1
  | n + 1 => if 0 ≤ firstN f n then firstN f n else if f n then (n : Int) else -1
theorem firstN_spec (f : Nat → Bool) : ∀ n, (firstN f n = -1 ∧ ∀ d, d < n → f d = false) ∨ ∃ d : Nat, d < n ∧ firstN f n = (d : Int) ∧ f d = true ∧ ∀ e, e < d → f e = false
  | 0 => .inl ⟨rfl, fun d hd => absurd hd (Nat.not_lt_zero _)⟩
  | n + 1 => by
    rcases firstN_spec f n with ⟨h1, h2⟩ | ⟨d, hd, h1, h2, h3⟩
    · cases hf : f n with
      | true =>
        refine .inr ⟨n, by omega, ?_, hf, h2⟩
        rw [firstN, h1, if_neg (by decide), if_pos hf]
      | false =>
        refine .inl ⟨?_, fun d hd => ?_⟩
        · rw [firstN, h1, if_neg (by decide), if_neg (by rw [hf]; decide)]
        · by_cases e : d = n
          · rw [e]; exact hf
          · exact h2 d (by omega)
    · refine .inr ⟨d, by omega, ?_, h2, h3⟩
      rw [firstN, h1, if_pos (by omega)]
theorem firstN_none {f : Nat → Bool} {n : Nat} (h : ∀ d, d < n → f d = false) : firstN f n = -1 := by
  rcases firstN_spec f n with ⟨h1, _⟩ | ⟨d, hd, _, h2, _⟩
  · exact h1
  · rw [h d hd] at h2; cases h2
theorem firstN_at {f : Nat → Bool} {n d : Nat} (hd : d < n) (h1 : f d = true) (h2 : ∀ e, e < d → f e = false) : firstN f n = (d : Int) := by
  rcases firstN_spec f n with ⟨_, h⟩ | ⟨e, he, h3, h4, h5⟩
  · rw [h d hd] at h1; cases h1
  · by_cases hl : e < d
    · rw [h2 e hl] at h4; cases h4
    · by_cases hg : d < e
      · rw [h5 d hg] at h1; cases h1
      · rw [h3, show e = d by omega]
theorem firstN_le {f : Nat → Bool} {n d : Nat} (hd : d < n) (h1 : f d = true) : 0 ≤ firstN f n ∧ firstN f n ≤ (d : Int) := by
  rcases firstN_spec f n with ⟨_, h⟩ | ⟨e, he, h3, h4, h5⟩
  · rw [h d hd] at h1; cases h1
  · by_cases hg : d < e
    · rw [h5 d hg] at h1; cases h1
    · rw [h3]; omega
theorem firstN_ge {f : Nat → Bool} {n : Nat} (h : 0 ≤ firstN f n) : ∃ d : Nat, d < n ∧ firstN f n = (d : Int) ∧ f d = true ∧ ∀ e, e < d → f e = false := by
  rcases firstN_spec f n with ⟨h1, _⟩ | h1
  · omega
  · exact h1
theorem firstN_low (f : Nat → Bool) (n : Nat) : -1 ≤ firstN f n := by
  rcases firstN_spec f n with ⟨h1, _⟩ | ⟨d, _, h1, _⟩ <;> omega
/-! ### the tables -/
def majN (p : Nat) : Nat := tabF (2 ^ p) fun w => decide (p < 2 * heads w)
def majV (p : Int) : Int := if 1 ≤ p ∧ p ≤ 4 then (majN p.toNat : Int) else -1
/-- the person k tells the truth in all worlds -/
def telB (p T k : Nat) : Bool := (List.range (2 ^ p)).all fun w => !T.testBit w || w.testBit k
def telN (p T : Nat) : Int := firstN (telB p T) p
def ktV (p t : Int) : Int := if tOk p t && decide (t ≠ 0) then telN p.toNat t.toNat else -1
def askN (p T i j : Nat) (s : Bool) : Nat := tabF (2 ^ p) fun w => T.testBit w && ((w.testBit i == w.testBit j) == s)
def askV (p t i j : Int) (s : Bool) : Int := if tOk p t && (decide (0 ≤ i ∧ i < p) && decide (0 ≤ j ∧ j < p)) then (askN p.toNat t.toNat i.toNat j.toNat s : Int) else -1
/-- so many questions are enough -/
def solB (p : Nat) : Nat → Nat → Bool
  | 0, T => decide (T = 0) || (List.range p).any (telB p T)
  | d + 1, T => (decide (T = 0) || (List.range p).any (telB p T)) || (List.range p).any fun i => (List.range p).any fun j => decide (i < j) && (solB p d (askN p T i j true) && solB p d (askN p T i j false))
def lv (p m T : Nat) : Int := firstN (fun d => solB p d T) (m + 1)
def leastV (p t : Int) : Int := if tOk p t then lv p.toNat p.toNat t.toNat else -1
theorem telB_iff {p T k : Nat} : telB p T k = true ↔ ∀ w, w < 2 ^ p → T.testBit w = true → w.testBit k = true := by
  unfold telB
  rw [List.all_eq_true]
  constructor
  · intro h w hw ht
    have := h w (List.mem_range.2 hw)
    rw [ht] at this
    simpa using this
  · intro h w hw
    cases ht : T.testBit w with
    | false => rfl
    | true => rw [h w (List.mem_range.1 hw) ht]; rfl
/-- solved with no question -/
def done0 (p T : Nat) : Bool := decide (T = 0) || (List.range p).any (telB p T)
theorem done0_iff {p T : Nat} : done0 p T = true ↔ T = 0 ∨ ∃ k, k < p ∧ telB p T k = true := by
  unfold done0
  rw [Bool.or_eq_true, decide_eq_true_eq, List.any_eq_true]
  constructor
  · rintro (h | ⟨k, hk, h⟩)
    · exact .inl h
    · exact .inr ⟨k, List.mem_range.1 hk, h⟩
  · rintro (h | ⟨k, hk, h⟩)
    · exact .inl h
    · exact .inr ⟨k, List.mem_range.2 hk, h⟩
theorem done0_tel {p T : Nat} : done0 p T = true ↔ T = 0 ∨ 0 ≤ telN p T := by
  rw [done0_iff]
  constructor
  · rintro (h | ⟨k, hk, h⟩)
    · exact .inl h
    · exact .inr (firstN_le hk h).1
  · rintro (h | h)
    · exact .inl h
    · obtain ⟨d, hd, _, h1, _⟩ := firstN_ge h
      exact .inr ⟨d, hd, h1⟩
theorem solB_zero (p T : Nat) : solB p 0 T = done0 p T := rfl
theorem solB_succ {p d T : Nat} : solB p (d + 1) T = true ↔ done0 p T = true ∨ ∃ i j, i < j ∧ j < p ∧ solB p d (askN p T i j true) = true ∧ solB p d (askN p T i j false) = true := by
  rw [solB, Bool.or_eq_true]
  refine or_congr Iff.rfl ?_
  rw [List.any_eq_true]
  constructor
  · rintro ⟨i, hi, h⟩
    rw [List.any_eq_true] at h
    obtain ⟨j, hj, h⟩ := h
    rw [Bool.and_eq_true, Bool.and_eq_true, decide_eq_true_eq] at h
    exact ⟨i, j, h.1, List.mem_range.1 hj, h.2.1, h.2.2⟩
  · rintro ⟨i, j, h1, h2, h3, h4⟩
    refine ⟨i, List.mem_range.2 (by omega), ?_⟩
    rw [List.any_eq_true]
    refine ⟨j, List.mem_range.2 h2, ?_⟩
    rw [h3, h4, decide_eq_true h1]; rfl
theorem sol_step {p T : Nat} : ∀ d, solB p d T = true → solB p (d + 1) T = true := by
  intro d
  induction d generalizing T with
  | zero => intro h; exact solB_succ.2 (.inl h)
  | succ d ih =>
    intro h
    rcases solB_succ.1 h with h | ⟨i, j, h1, h2, h3, h4⟩
    · exact solB_succ.2 (.inl h)
    · exact solB_succ.2 (.inr ⟨i, j, h1, h2, ih h3, ih h4⟩)
theorem sol_mono {p T d e : Nat} (h : d ≤ e) (hs : solB p d T = true) : solB p e T = true := by
  induction e with
  | zero => rw [show d = 0 by omega] at hs; exact hs
  | succ e ih =>
    by_cases hd : d = e + 1
    · rw [← hd]; exact hs
    · exact sol_step e (ih (by omega))
theorem sol_done {p T : Nat} (h : done0 p T = true) (d : Nat) : solB p d T = true := sol_mono (Nat.zero_le d) h
/-- fewer worlds -/
def Sub (A B : Nat) : Prop := ∀ w, A.testBit w = true → B.testBit w = true
theorem ask_bit {p T i j w : Nat} {s : Bool} : (askN p T i j s).testBit w = true ↔ w < 2 ^ p ∧ T.testBit w = true ∧ (w.testBit i == w.testBit j) = s := by
  unfold askN
  rw [tabF_bit, Bool.and_eq_true, decide_eq_true_eq, Bool.and_eq_true, beq_iff_eq]
theorem ask_lt (p T i j : Nat) (s : Bool) : askN p T i j s < 2 ^ 2 ^ p := tabF_lt _ _
theorem ask_sub (p T i j : Nat) (s : Bool) : Sub (askN p T i j s) T := fun _ h => (ask_bit.1 h).2.1
theorem ask_sub2 {p A B i j : Nat} {s : Bool} (h : Sub A B) : Sub (askN p A i j s) (askN p B i j s) := fun w hw => by
  obtain ⟨h1, h2, h3⟩ := ask_bit.1 hw
  exact ask_bit.2 ⟨h1, h w h2, h3⟩
theorem zero_of_none {A : Nat} (h : ∀ w, A.testBit w = false) : A = 0 := Nat.eq_of_testBit_eq fun w => by rw [h w]; simp
theorem done_sub {p A B : Nat} (h : Sub A B) (hB : done0 p B = true) : done0 p A = true := by
  rw [done0_iff] at hB ⊢
  rcases hB with rfl | ⟨k, hk, ht⟩
  · left
    refine zero_of_none fun w => ?_
    cases hw : A.testBit w with
    | false => rfl
    | true => have := h w hw; simp at this
  · right
    refine ⟨k, hk, telB_iff.2 fun w hw hb => telB_iff.1 ht w hw (h w hb)⟩
/-- who knows more asks no more -/
theorem sol_sub {p A B : Nat} (d : Nat) (h : Sub A B) (hB : solB p d B = true) : solB p d A = true := by
  induction d generalizing A B with
  | zero => exact done_sub h hB
  | succ d ih =>
    rcases solB_succ.1 hB with hB | ⟨i, j, h1, h2, h3, h4⟩
    · exact solB_succ.2 (.inl (done_sub h hB))
    · exact solB_succ.2 (.inr ⟨i, j, h1, h2, ih (ask_sub2 h) h3, ih (ask_sub2 h) h4⟩)
/-! ### what can't be solved -/
def Bad (p T : Nat) : Prop := T.testBit 0 = true ∨ ∃ w, w < 2 ^ p ∧ T.testBit w = true ∧ T.testBit (2 ^ p - 1 - w) = true
theorem opp_bit9 {p w k : Nat} (hw : w < 2 ^ p) (hk : k < p) : (2 ^ p - 1 - w).testBit k = !w.testBit k := by
  rw [show 2 ^ p - 1 - w = 2 ^ p - (w + 1) by omega, Nat.testBit_two_pow_sub_succ hw, decide_eq_true hk, Bool.true_and]
theorem two_pos (p : Nat) : 0 < 2 ^ p := Nat.pow_pos (by decide)
theorem bad_done {p T : Nat} (h : Bad p T) : done0 p T = false := by
  cases hd : done0 p T with
  | false => rfl
  | true =>
    rcases done0_iff.1 hd with h0 | ⟨k, hk, ht⟩
    · subst h0
      rcases h with h | ⟨w, _, h, _⟩ <;> simp at h
    · have ht := telB_iff.1 ht
      rcases h with h | ⟨w, hw, h1, h2⟩
      · have := ht 0 (two_pos p) h; simp at this
      · have a := ht w hw h1
        have b := ht _ (by have := two_pos p; omega) h2
        rw [opp_bit9 hw hk, a] at b; cases b
theorem bad_ask {p T i j : Nat} (hi : i < p) (hj : j < p) (h : Bad p T) : Bad p (askN p T i j true) ∨ Bad p (askN p T i j false) := by
  rcases h with h | ⟨w, hw, h1, h2⟩
  · left; left; exact ask_bit.2 ⟨two_pos p, h, by simp⟩
  · have hopp : ((2 ^ p - 1 - w).testBit i == (2 ^ p - 1 - w).testBit j) = (w.testBit i == w.testBit j) := by
      rw [opp_bit9 hw hi, opp_bit9 hw hj]
      cases w.testBit i <;> cases w.testBit j <;> rfl
    have hlt : 2 ^ p - 1 - w < 2 ^ p := by have := two_pos p; omega
    cases hs : (w.testBit i == w.testBit j) with
    | true => left; right; exact ⟨w, hw, ask_bit.2 ⟨hw, h1, hs⟩, ask_bit.2 ⟨hlt, h2, by rw [hopp, hs]⟩⟩
    | false => right; right; exact ⟨w, hw, ask_bit.2 ⟨hw, h1, hs⟩, ask_bit.2 ⟨hlt, h2, by rw [hopp, hs]⟩⟩
theorem bad_sol {p T : Nat} (d : Nat) (h : Bad p T) : solB p d T = false := by
  induction d generalizing T with
  | zero => exact bad_done h
  | succ d ih =>
    cases hs : solB p (d + 1) T with
    | false => rfl
    | true =>
      rcases solB_succ.1 hs with h0 | ⟨i, j, h1, h2, h3, h4⟩
      · rw [bad_done h] at h0; cases h0
      · rcases bad_ask (i := i) (j := j) (by omega) h2 h with hb | hb
        · rw [ih hb] at h3; cases h3
        · rw [ih hb] at h4; cases h4
theorem bad_sub {p A B : Nat} (h : Sub A B) (hb : Bad p A) : Bad p B := by
  rcases hb with hb | ⟨w, hw, h1, h2⟩
  · exact .inl (h 0 hb)
  · exact .inr ⟨w, hw, h w h1, h _ h2⟩
/-- all worlds that are left agree, up to the person q, on who is as the first one -/
def Agree (p T q : Nat) : Prop := ∀ w w', w < 2 ^ p → w' < 2 ^ p → T.testBit w = true → T.testBit w' = true → ∀ j, j ≤ q → (w.testBit 0 == w.testBit j) = (w'.testBit 0 == w'.testBit j)
theorem agree_done {p T : Nat} (hp : 0 < p) (hT : T < 2 ^ 2 ^ p) (hn : ¬ Bad p T) (h : Agree p T (p - 1)) : done0 p T = true := by
  rw [done0_iff]
  by_cases h0 : ∃ w, w < 2 ^ p ∧ T.testBit w = true
  · right
    obtain ⟨w, hw, hb⟩ := h0
    have hw0 : w ≠ 0 := fun e => hn (.inl (by rw [← e]; exact hb))
    obtain ⟨k, hk, hwk⟩ : ∃ k, k < p ∧ w.testBit k = true := by
      refine Classical.byContradiction fun hne => hw0 (zero_of_none fun k => ?_)
      cases hwk : w.testBit k with
      | false => rfl
      | true =>
        exfalso
        by_cases hk : k < p
        · exact hne ⟨k, hk, hwk⟩
        · rw [testBit_false_of_lt hw (by omega)] at hwk; cases hwk
    refine ⟨k, hk, telB_iff.2 fun w' hw' hb' => ?_⟩
    have hall := h w w' hw hw' hb hb'
    by_cases he : w.testBit 0 = w'.testBit 0
    · have hall := hall k (by omega)
      rw [he] at hall
      cases h1 : w'.testBit 0 <;> cases h2 : w'.testBit k <;> rw [h1, h2, hwk] at hall <;> first | rfl | (simp at hall)
    · exfalso
      refine hn (.inr ⟨w, hw, hb, ?_⟩)
      have : w' = 2 ^ p - 1 - w := by
        refine bit_ext hw' (n := p) (by have := two_pos p; omega) fun j hj => ?_
        rw [opp_bit9 hw hj]
        have := hall j (by omega)
        cases h1 : w.testBit 0 <;> cases h2 : w'.testBit 0 <;> cases h3 : w.testBit j <;> cases h4 : w'.testBit j <;> simp [h1, h2, h3, h4] at this he ⊢
      rw [← this]; exact hb'
  · left
    refine zero_of_none fun w => ?_
    cases hw : T.testBit w with
    | false => rfl
    | true =>
      exfalso
      by_cases hl : w < 2 ^ p
      · exact h0 ⟨w, hl, hw⟩
      · rw [testBit_false_of_lt hT (by omega)] at hw; cases hw
theorem sol_chain {p : Nat} (hp : 0 < p) : ∀ (r T : Nat), r ≤ p - 1 → T < 2 ^ 2 ^ p → ¬ Bad p T → Agree p T (p - 1 - r) → solB p r T = true
  | 0, T, _, hT, hn, ha => agree_done hp hT hn ha
  | r + 1, T, hr, hT, hn, ha => by
    have hside : ∀ s, solB p r (askN p T 0 (p - 1 - r) s) = true := fun s => by
      refine sol_chain hp r _ (by omega) (ask_lt _ _ _ _ _) (fun hb => hn (bad_sub (ask_sub p T 0 _ s) hb)) ?_
      intro w w' hw hw' hb hb' j hj
      obtain ⟨_, h1, h2⟩ := ask_bit.1 hb
      obtain ⟨_, h3, h4⟩ := ask_bit.1 hb'
      by_cases he : j = p - 1 - r
      · rw [he, h2, h4]
      · exact ha w w' hw hw' h1 h3 j (by omega)
    exact solB_succ.2 (.inr ⟨0, p - 1 - r, by omega, by omega, hside true, hside false⟩)
/-- what is not bad is solved with fewer questions than people -/
theorem good_sol {p T : Nat} (hp : 0 < p) (hT : T < 2 ^ 2 ^ p) (hn : ¬ Bad p T) : solB p (p - 1) T = true := by
  refine sol_chain hp (p - 1) T (Nat.le_refl _) hT hn fun w w' _ _ _ _ j hj => ?_
  rw [show j = 0 by omega]; simp
/-! ### the least number -/
theorem lv_done {p m T : Nat} (h : done0 p T = true) : lv p m T = 0 := by
  have := firstN_at (f := fun d => solB p d T) (n := m + 1) (d := 0) (by omega) h (fun e he => absurd he (Nat.not_lt_zero _))
  exact this
theorem lv_zero {p T : Nat} (h : done0 p T = false) : lv p 0 T = -1 := firstN_none fun d hd => by rw [show d = 0 by omega]; exact h
theorem lv_low (p m T : Nat) : -1 ≤ lv p m T := firstN_low _ _
theorem lv_high (p m T : Nat) : lv p m T ≤ m := by
  rcases firstN_spec (fun d => solB p d T) (m + 1) with ⟨h, _⟩ | ⟨d, hd, h, _⟩
  · unfold lv; omega
  · unfold lv; omega
/-- a question that parts the worlds, both parts of which can be solved -/
def Good (p m T i j : Nat) : Prop := askN p T i j true ≠ T ∧ askN p T i j false ≠ T ∧ 0 ≤ lv p m (askN p T i j true) ∧ 0 ≤ lv p m (askN p T i j false)
def costQ (p m T i j : Nat) : Int := max (lv p m (askN p T i j true)) (lv p m (askN p T i j false)) + 1
theorem lv_step_le {p m T i j : Nat} (hij : i < j) (hj : j < p) (h : Good p m T i j) : 0 ≤ lv p (m + 1) T ∧ lv p (m + 1) T ≤ costQ p m T i j := by
  obtain ⟨_, _, h1, h2⟩ := h
  unfold costQ
  obtain ⟨a, ha, ea, sa, _⟩ := firstN_ge h1
  obtain ⟨b, hb, eb, sb, _⟩ := firstN_ge h2
  have e1 : lv p m (askN p T i j true) = (a : Int) := ea
  have e2 : lv p m (askN p T i j false) = (b : Int) := eb
  rw [e1, e2]
  have hs : solB p (max a b + 1) T = true := solB_succ.2 (.inr ⟨i, j, hij, hj, sol_mono (Nat.le_max_left a b) sa, sol_mono (Nat.le_max_right a b) sb⟩)
  have := firstN_le (f := fun d => solB p d T) (n := m + 1 + 1) (d := max a b + 1) (by omega) hs
  refine ⟨this.1, ?_⟩
  have h3 := this.2
  show firstN (fun d => solB p d T) (m + 1 + 1) ≤ _
  omega
theorem lv_step_ge {p m T : Nat} (hd : done0 p T = false) (h : 0 ≤ lv p (m + 1) T) : ∃ i j, i < j ∧ j < p ∧ Good p m T i j ∧ costQ p m T i j ≤ lv p (m + 1) T := by
  obtain ⟨d, hdm, e, hs, hmin⟩ := firstN_ge h
  have e : lv p (m + 1) T = (d : Int) := e
  cases d with
  | zero => rw [solB_zero, hd] at hs; cases hs
  | succ d =>
    rcases solB_succ.1 hs with h0 | ⟨i, j, hij, hj, h1, h2⟩
    · rw [hd] at h0; cases h0
    · have hn1 : askN p T i j true ≠ T := fun he => by
        rw [he] at h1
        have := hmin d (by omega)
        rw [h1] at this; cases this
      have hn2 : askN p T i j false ≠ T := fun he => by
        rw [he] at h2
        have := hmin d (by omega)
        rw [h2] at this; cases this
      have a := firstN_le (f := fun e => solB p e (askN p T i j true)) (n := m + 1) (d := d) (by omega) h1
      have b := firstN_le (f := fun e => solB p e (askN p T i j false)) (n := m + 1) (d := d) (by omega) h2
      refine ⟨i, j, hij, hj, ⟨hn1, hn2, a.1, b.1⟩, ?_⟩
      have a2 : lv p m (askN p T i j true) ≤ d := a.2
      have b2 : lv p m (askN p T i j false) ≤ d := b.2
      unfold costQ
      rw [e]
      omega
/-- the best of the questions that have been asked: D tells which ones -/
def Best (p m T : Nat) (D : Nat → Nat → Prop) (b : Int) : Prop :=
  (b = -1 ∧ ∀ i j, i < j → j < p → D i j → ¬ Good p m T i j) ∨ (0 ≤ b ∧ (∃ i j, i < j ∧ j < p ∧ Good p m T i j ∧ costQ p m T i j = b) ∧ ∀ i j, i < j → j < p → D i j → Good p m T i j → b ≤ costQ p m T i j)
theorem Best.none (p m T : Nat) {D : Nat → Nat → Prop} (h : ∀ i j, i < j → j < p → ¬ D i j) : Best p m T D (-1) := .inl ⟨rfl, fun i j h1 h2 h3 => absurd h3 (h i j h1 h2)⟩
theorem Best.all {p m T : Nat} {D : Nat → Nat → Prop} {b : Int} (hd : done0 p T = false) (h : Best p m T D b) (hD : ∀ i j, i < j → j < p → D i j) : lv p (m + 1) T = b := by
  rcases h with ⟨rfl, h⟩ | ⟨hb, ⟨i, j, h1, h2, h3, h4⟩, h⟩
  · have hl := lv_low p (m + 1) T
    by_cases h0 : 0 ≤ lv p (m + 1) T
    · obtain ⟨i, j, h1, h2, h3, _⟩ := lv_step_ge hd h0
      exact absurd h3 (h i j h1 h2 (hD i j h1 h2))
    · omega
  · have hle := lv_step_le h1 h2 h3
    obtain ⟨i', j', g1, g2, g3, g4⟩ := lv_step_ge hd hle.1
    have := h i' j' g1 g2 (hD i' j' g1 g2) g3
    omega
theorem Best.weaken {p m T : Nat} {D D' : Nat → Nat → Prop} {b : Int} (h : Best p m T D b) (hD : ∀ i j, i < j → j < p → D' i j → D i j) : Best p m T D' b := by
  rcases h with ⟨rfl, h⟩ | ⟨hb, hex, h⟩
  · exact .inl ⟨rfl, fun i j h1 h2 h3 => h i j h1 h2 (hD i j h1 h2 h3)⟩
  · exact .inr ⟨hb, hex, fun i j h1 h2 h3 => h i j h1 h2 (hD i j h1 h2 h3)⟩
theorem Best.skip {p m T i j : Nat} {D D' : Nat → Nat → Prop} {b : Int} (h : Best p m T D b) (hn : ¬ Good p m T i j) (hD : ∀ i' j', i' < j' → j' < p → D' i' j' → D i' j' ∨ (i' = i ∧ j' = j)) : Best p m T D' b := by
  rcases h with ⟨rfl, h⟩ | ⟨hb, hex, h⟩
  · refine .inl ⟨rfl, fun i' j' h1 h2 h3 => ?_⟩
    rcases hD i' j' h1 h2 h3 with h4 | ⟨rfl, rfl⟩
    · exact h i' j' h1 h2 h4
    · exact hn
  · refine .inr ⟨hb, hex, fun i' j' h1 h2 h3 h5 => ?_⟩
    rcases hD i' j' h1 h2 h3 with h4 | ⟨rfl, rfl⟩
    · exact h i' j' h1 h2 h4 h5
    · exact absurd h5 hn
theorem Best.take {p m T i j : Nat} {D D' : Nat → Nat → Prop} {b : Int} (h : Best p m T D b) (hij : i < j) (hj : j < p) (hg : Good p m T i j) (hD : ∀ i' j', i' < j' → j' < p → D' i' j' → D i' j' ∨ (i' = i ∧ j' = j)) (hb : b < 0 ∨ costQ p m T i j < b) : Best p m T D' (costQ p m T i j) := by
  have h0 : 0 ≤ costQ p m T i j := by unfold costQ; have := hg.2.2.1; omega
  refine .inr ⟨h0, ⟨i, j, hij, hj, hg, rfl⟩, fun i' j' h1 h2 h3 h5 => ?_⟩
  rcases hD i' j' h1 h2 h3 with h4 | ⟨rfl, rfl⟩
  · rcases h with ⟨rfl, h⟩ | ⟨_, _, h⟩
    · exact absurd h5 (h i' j' h1 h2 h4)
    · have := h i' j' h1 h2 h4 h5
      omega
  · exact Int.le_refl _
theorem Best.leave {p m T i j : Nat} {D D' : Nat → Nat → Prop} {b : Int} (h : Best p m T D b) (hD : ∀ i' j', i' < j' → j' < p → D' i' j' → D i' j' ∨ (i' = i ∧ j' = j)) (hb : 0 ≤ b) (hle : b ≤ costQ p m T i j) : Best p m T D' b := by
  rcases h with ⟨rfl, h⟩ | ⟨hb, hex, h⟩
  · omega
  · refine .inr ⟨hb, hex, fun i' j' h1 h2 h3 h5 => ?_⟩
    rcases hD i' j' h1 h2 h3 with h4 | ⟨rfl, rfl⟩
    · exact h i' j' h1 h2 h4 h5
    · exact hle
theorem Best.low {p m T : Nat} {D : Nat → Nat → Prop} {b : Int} (h : Best p m T D b) (hm : m ≤ 4) : -1 ≤ b ∧ b ≤ 6 := by
  rcases h with ⟨rfl, _⟩ | ⟨hb, ⟨i, j, h1, h2, h3, h4⟩, _⟩
  · omega
  · have a := lv_high p m (askN p T i j true)
    have c := lv_high p m (askN p T i j false)
    unfold costQ at h4
    omega
/-! ### for the laws -/
theorem lv_ge_iff {p T : Nat} (hp : 0 < p) (hT : T < 2 ^ 2 ^ p) : 0 ≤ lv p p T ↔ ¬ Bad p T := by
  constructor
  · intro h hb
    obtain ⟨d, _, _, hs, _⟩ := firstN_ge h
    rw [bad_sol d hb] at hs; cases hs
  · intro h
    exact (firstN_le (f := fun d => solB p d T) (n := p + 1) (d := p - 1) (by omega) (good_sol hp hT h)).1
theorem lv_less {p T : Nat} (hp : 0 < p) (hT : T < 2 ^ 2 ^ p) : lv p p T < p := by
  by_cases h : Bad p T
  · have : ¬ 0 ≤ lv p p T := fun h2 => (lv_ge_iff hp hT).1 h2 h
    omega
  · have := (firstN_le (f := fun d => solB p d T) (n := p + 1) (d := p - 1) (by omega) (good_sol hp hT h)).2
    show firstN _ _ < _
    omega
theorem lv_eq_zero {p m T : Nat} : lv p m T = 0 ↔ done0 p T = true := by
  constructor
  · intro h
    obtain ⟨d, _, e, hs, _⟩ := firstN_ge (f := fun d => solB p d T) (n := m + 1) (by show 0 ≤ lv p m T; omega)
    have e : lv p m T = (d : Int) := e
    rw [show d = 0 by omega] at hs
    exact hs
  · exact lv_done
theorem lv_sub {p A B : Nat} (m : Nat) (h : Sub A B) (hB : 0 ≤ lv p m B) : 0 ≤ lv p m A ∧ lv p m A ≤ lv p m B := by
  obtain ⟨d, hd, e, hs, _⟩ := firstN_ge hB
  have e : lv p m B = (d : Int) := e
  rw [e]
  exact firstN_le (f := fun d => solB p d A) hd (sol_sub d h hs)
theorem maj_bit {p w : Nat} : (majN p).testBit w = true ↔ w < 2 ^ p ∧ p < 2 * heads w := by
  unfold majN
  rw [tabF_bit, Bool.and_eq_true, decide_eq_true_eq, decide_eq_true_eq]
theorem maj_lt (p : Nat) : majN p < 2 ^ 2 ^ p := tabF_lt _ _
end Go.Proofs.YtbnickgjnglblaaDoor
/- Contracts of the laws' own helpers over lists of numbers. -/
namespace Go.Proofs.YtbnickgjnglblaaDoor
open Go.RowKit Go.Joins

def ints (zs : List Int) : List Value := zs.map (Value.int .i64)
theorem grownBy_setCell {w : World} (g j : Nat) (u : Value) : w.grownBy (w.setCell ⟨g, j, none⟩ u) (some g) :=
  ⟨rfl, rfl, rfl, by simp [World.setCell], fun k _ hne => Below.heap_setCell _ _ _ _ (by intro e; exact hne (by rw [e]))⟩
theorem grownBy_trans {a b c : World} {row : Option Nat} (h : a.grownBy b row) (k : b.grownBy c row) : a.grownBy c row :=
  ⟨k.os.trans h.os, k.tape.trans h.tape, k.output.trans h.output, Nat.le_trans h.size k.size, fun i hi hne => (k.block i (Nat.lt_of_lt_of_le hi h.size) hne).trans (h.block i hi hne)⟩
theorem grownBy_drewN {a b : World} {row : Option Nat} (h : a.grownBy b row) (n : Nat) : a.grownBy (b.drewN n) row :=
  grownBy_trans h ⟨rfl, rfl, rfl, Nat.le_refl _, fun _ _ _ => rfl⟩

/-! ### equality of two lists of numbers -/
theorem list_eq_of {xs ys : List Int} (hl : xs.length = ys.length) (h : ∀ j, j < xs.length → xs.getD j 0 = ys.getD j 0) : xs = ys := by
  refine List.ext_getElem hl fun j h1 h2 => ?_
  have := h j h1
  simpa [List.getD, h1, h2] using this
theorem ints_set_mid (A R : List Int) (z x : Int) (k : Nat) (hk : A.length = k) : (ints (A ++ z :: R)).set k (.int .i64 x) = ints (A ++ x :: R) := by
  subst hk
  have h1 : (A.map (Value.int .i64)).length = A.length := by simp
  unfold ints
  rw [List.map_append, List.map_append, List.map_cons, List.map_cons, List.set_append_right _ _ (by omega), h1, Nat.sub_self]
  rfl
theorem mark_set (zs : List Int) (k0 k : Nat) (hk : k < zs.length) :
    (ints (((List.range k).map fun j => ((k0 + j : Nat) : Int)) ++ zs.drop k)).set k (.int .i64 ((k0 + k : Nat) : Int)) = ints (((List.range (k+1)).map fun j => ((k0 + j : Nat) : Int)) ++ zs.drop (k + 1)) := by
  rw [List.drop_eq_getElem_cons hk, List.range_succ, List.map_append, List.append_assoc]
  exact ints_set_mid _ _ _ _ _ (by simp)
theorem copy_set (zs : List Int) (n k : Nat) (hn : zs.length = n) (hk : k < n) :
    (ints (zs.take k ++ List.replicate (n - k) 0)).set k (.int .i64 (zs.getD k 0)) = ints (zs.take (k + 1) ++ List.replicate (n - (k + 1)) 0) := by
  have hr : List.replicate (n - k) (0 : Int) = 0 :: List.replicate (n - (k + 1)) 0 := by
    rw [show n - k = (n - (k + 1)) + 1 from by omega]; rfl
  rw [hr, List.take_succ_eq_append_getElem (by omega), show zs.getD k 0 = zs[k] from by simp [List.getD, show k < zs.length by omega], List.append_assoc]
  exact ints_set_mid _ _ _ _ _ (by simp; omega)








end Go.Proofs.YtbnickgjnglblaaDoor
/- Contracts of the reference's functions of asking for a teller. -/
namespace Go.Proofs.YtbnickgjnglblaaDoor
open Go.RowKit Go.Joins
theorem specL1In13 (n lo hi : Int) (b : Bool) (hb : Hid (b = decide (lo ≤ n ∧ n ≤ hi))) (w : World) :
    Calls Tryd.prog 31 #[.int .i64 n, .int .i64 lo, .int .i64 hi] w fun e w' => e = .returned (.bool b) ∧ w = w' := by
  rw [hb.out]; exact specIn n lo hi w
theorem shl_p {p N : Nat} (h4 : p ≤ 4) (hN : N = 2 ^ p) : wrap64 (2 ^ p) = (N : Int) := by
  have h : p = 0 ∨ p = 1 ∨ p = 2 ∨ p = 3 ∨ p = 4 := by omega
  rw [hN]
  rcases h with rfl | rfl | rfl | rfl | rfl <;> decide +kernel
theorem shl_pk {p N : Nat} (h4 : p ≤ 4) (hN : N = 2 ^ p) : IntKind.i64.wrap (2 ^ p) = (N : Int) := by
  have h : p = 0 ∨ p = 1 ∨ p = 2 ∨ p = 3 ∨ p = 4 := by omega
  rw [hN]
  rcases h with rfl | rfl | rfl | rfl | rfl <;> decide +kernel
theorem two_16 {p N : Nat} (h4 : p ≤ 4) (hN : N = 2 ^ p) : N ≤ 16 := by rw [hN]; exact (Nat.pow_le_pow_right (by decide) h4 : 2 ^ p ≤ 2 ^ 4)
def bitZ (X j : Nat) : Int := if X.testBit j then 1 else 0
theorem bit_tmod (X j : Nat) : ((X : Int) / 2 ^ j).tmod 2 = bitZ X j := tmod_two_val
theorem bitZ_yes {X j : Nat} (h : X.testBit j = true) : bitZ X j = 1 := by unfold bitZ; rw [h]; rfl
theorem bitZ_no {X j : Nat} (h : X.testBit j = false) : bitZ X j = 0 := by unfold bitZ; rw [h]; rfl
theorem majV_no {p : Int} (h : ¬ (1 ≤ p ∧ p ≤ 4)) : majV p = -1 := by unfold majV; rw [if_neg h]
theorem majV_yes {p : Nat} (h1 : 1 ≤ p) (h4 : p ≤ 4) : majV (p : Int) = (majN p : Int) := by unfold majV; rw [if_pos (by omega), Int.toNat_natCast]
/-- worlds below k in which all that is said of k holds -/
def telK (T k W : Nat) : Bool := (List.range W).all fun w => !T.testBit w || w.testBit k
theorem telK_succ (T k W : Nat) : telK T k (W + 1) = (telK T k W && (!T.testBit W || W.testBit k)) := by
  unfold telK; rw [List.range_succ, List.all_append]; simp
theorem telN_none {p T : Nat} (h : ∀ k, k < p → telB p T k = false) : telN p T = -1 := firstN_none h
theorem telN_at {p T k : Nat} (hk : k < p) (h1 : telB p T k = true) (h2 : ∀ j, j < k → telB p T j = false) : telN p T = (k : Int) := firstN_at hk h1 h2
theorem ktV_no {p t : Int} (h : tOk p t = false) : ktV p t = -1 := by unfold ktV; rw [h]; rfl
theorem ktV_zero (p : Int) : ktV p 0 = -1 := by unfold ktV; simp
theorem ktV_yes {p T : Nat} (h : tOk (p : Int) (T : Int) = true) (h0 : T ≠ 0) : ktV (p : Int) (T : Int) = telN p T := by
  unfold ktV
  rw [h, decide_eq_true (show (T : Int) ≠ 0 by omega), Int.toNat_natCast, Int.toNat_natCast]; rfl
theorem askV_no {p t i j : Int} {s : Bool} (h : tOk p t = false) : askV p t i j s = -1 := by unfold askV; rw [h]; rfl
theorem askV_i {p t i j : Int} {s : Bool} (h : ¬ (0 ≤ i ∧ i < p)) : askV p t i j s = -1 := by unfold askV; rw [decide_eq_false h]; simp
theorem askV_j {p t i j : Int} {s : Bool} (h : ¬ (0 ≤ j ∧ j < p)) : askV p t i j s = -1 := by unfold askV; rw [decide_eq_false h]; simp
theorem askV_yes {p T i j : Nat} {s : Bool} (h : tOk (p : Int) (T : Int) = true) (hi : i < p) (hj : j < p) : askV (p : Int) (T : Int) (i : Int) (j : Int) s = (askN p T i j s : Int) := by
  unfold askV
  rw [h, decide_eq_true (show (0 : Int) ≤ (i : Int) ∧ (i : Int) < (p : Int) by omega), decide_eq_true (show (0 : Int) ≤ (j : Int) ∧ (j : Int) < (p : Int) by omega)]
  simp
theorem leastV_no {p t : Int} (h : tOk p t = false) : leastV p t = -1 := by unfold leastV; rw [h]; rfl
theorem leastV_yes {p T : Nat} (h : tOk (p : Int) (T : Int) = true) : leastV (p : Int) (T : Int) = lv p p T := by unfold leastV; rw [h]; simp
theorem telN_low (p T : Nat) : -1 ≤ telN p T ∧ telN p T < (p : Int) ∨ p = 0 := by
  rcases firstN_spec (telB p T) p with ⟨h, _⟩ | ⟨d, hd, h, _⟩
  · by_cases hp : p = 0
    · exact .inr hp
    · left; unfold telN; omega
  · left; unfold telN; omega
theorem ask_small (p T i j : Nat) (s : Bool) (h4 : p ≤ 4) : askN p T i j s < 65536 :=
  Nat.lt_of_lt_of_le (ask_lt p T i j s) (by
    have : 2 ^ p ≤ 2 ^ 4 := Nat.pow_le_pow_right (by decide) h4
    exact Nat.pow_le_pow_right (by decide) this)
theorem good_no1 {p m T i j : Nat} (h : askN p T i j true = T) : ¬ Good p m T i j := fun g => g.1 h
theorem good_no2 {p m T i j : Nat} (h : askN p T i j false = T) : ¬ Good p m T i j := fun g => g.2.1 h
theorem good_no3 {p m T i j : Nat} (h : lv p m (askN p T i j true) < 0) : ¬ Good p m T i j := fun g => by have := g.2.2.1; omega
theorem good_no4 {p m T i j : Nat} (h : lv p m (askN p T i j false) < 0) : ¬ Good p m T i j := fun g => by have := g.2.2.2; omega
attribute [local irreducible] majN telB telN askN solB lv tabF heads telK firstN done0 costQ Good Best majV ktV askV leastV
set_option maxRecDepth 100000 in
set_option maxHeartbeats 2000000 in
theorem specMajority (p : Int) (w : World) :
    Calls Tryd.prog 36 #[.int .i64 p] w fun e w' => e = .returned (.int .i64 (majV p)) ∧ w = w' := by
  by_cases hp : 1 ≤ p ∧ p ≤ 4
  case neg =>
    have Hin : Hid (false = decide (1 ≤ p ∧ p ≤ 4)) := (decide_eq_false hp).symm
    have Hv := Lib.hid (majV_no hp)
    clear hp
    go_enter Tryd.func36, Tryd.ntmps36
    go_wp2_with fail
    refine (specL1In13 _ _ _ false Hin _).mono ?_
    rintro e w' ⟨rfl, rfl⟩
    go_wp2
    go_ret
    exact ⟨ret_int (by rw [Hv.out]), rfl⟩
  have Hin : Hid (true = decide (1 ≤ p ∧ p ≤ 4)) := (decide_eq_true hp).symm
  obtain ⟨p, rfl⟩ := Int.eq_ofNat_of_zero_le (show 0 ≤ p by omega)
  have h1 : 1 ≤ p := by omega
  have h4 : p ≤ 4 := by omega
  have Hv := Lib.hid (majV_yes h1 h4)
  obtain ⟨N, hN⟩ : ∃ N, N = 2 ^ p := ⟨_, rfl⟩
  have hsh := shl_p h4 hN
  have hshk := shl_pk h4 hN
  have hN16 := two_16 h4 hN
  have hmp : min p 64 = p := by omega
  have Hd : Hid (majN p = tabF N fun w => decide (p < 2 * heads w)) := by unfold Hid majN; rw [hN]
  clear hp hN
  go_enter Tryd.func36, Tryd.ntmps36
  go_wp2_with fail
  refine (specL1In13 _ _ _ true Hin _).mono ?_
  rintro e w' ⟨rfl, rfl⟩
  go_wp2
  go_loop [3, 4] (fun t i => ∃ k : Nat, k ≤ N ∧ i = .int .i64 k ∧ t = .int .i64 (tabF k (fun w => decide (p < 2 * heads w)) : Nat)) (fun _ i => N - (intOf i).toNat)
  case atStart => exact ⟨0, Nat.zero_le _, rfl, by unfold tabF; rfl⟩
  case round =>
    obtain ⟨k, hk, rfl, rfl⟩ := hrel
    by_cases hlt : k < N
    · have hs := tabF_succ k (fun w => decide (p < 2 * heads w))
      have hor := or_shlN (t := tabF k (fun w => decide (p < 2 * heads w))) (x := k) (N := N) (Nat.lt_of_lt_of_le (tabF_lt k _) (Nat.pow_le_pow_right (by decide) hk)) hN16 hlt
      rw [Nat.min_eq_left (by omega)] at hor
      have hh := heads_le k
      have Hh := Lib.hid (fun w => specHeads k (by omega) w)
      generalize tabF k (fun w => decide (p < 2 * heads w)) = T at *
      by_cases hm : p < 2 * heads k
      · rw [if_pos (decide_eq_true hm)] at hs
        have Hs := Lib.hid hs
        have hm' : (p : Int) < 2 * (heads k : Int) := by omega
        clear hs hm
        generalize heads k = hd at *
        go_wp2_with fail
        refine (Hh.out _).mono ?_
        rintro e w' ⟨rfl, rfl⟩
        go_wp2
        go_round
        case rel => exact ⟨k + 1, by omega, by go_num, by rw [Hs.out, ← hor]⟩
        case measure => simp [intOf]; omega
      · rw [if_neg (by rw [decide_eq_false hm]; decide)] at hs
        have Hs := Lib.hid hs
        have hm' : ¬ (p : Int) < 2 * (heads k : Int) := by omega
        clear hs hm hor
        generalize heads k = hd at *
        go_wp2_with fail
        refine (Hh.out _).mono ?_
        rintro e w' ⟨rfl, rfl⟩
        go_wp2
        go_round
        case rel => exact ⟨k + 1, by omega, by go_num, by rw [Hs.out]⟩
        case measure => simp [intOf]; omega
    · obtain rfl : k = N := Nat.le_antisymm hk (Nat.le_of_not_lt hlt)
      go_wp2
      go_ret
      exact ⟨ret_int (by rw [Hv.out, Hd.out]), rfl⟩
set_option maxRecDepth 100000 in
set_option maxHeartbeats 4000000 in
theorem specTeller13 (p T : Nat) (h4 : p ≤ 4) (_hT : T < 65536) (w : World) :
    Calls Tryd.prog 23 #[.int .i64 p, .int .i64 T] w fun e w' => e = .returned (.int .i64 (telN p T)) ∧ w = w' := by
  obtain ⟨N, hN⟩ : ∃ N, N = 2 ^ p := ⟨_, rfl⟩
  have hsh := shl_p h4 hN
  have hshk := shl_pk h4 hN
  have hN16 := two_16 h4 hN
  have hmp : min p 64 = p := by omega
  have Hd : Hid (∀ k, telB p T k = telK T k N) := fun k => by unfold telB telK; rw [hN]
  have Hnone : Hid ((∀ k, k < p → telB p T k = false) → telN p T = -1) := fun h => telN_none h
  have Hat : Hid (∀ k, k < p → telB p T k = true → (∀ j, j < k → telB p T j = false) → telN p T = (k : Int)) := fun k hk h1 h2 => telN_at hk h1 h2
  clear hN
  go_enter Tryd.func23, Tryd.ntmps23
  go_wp2
  go_loop [5, 6, 7] (fun i _ _ => ∃ k : Nat, k ≤ p ∧ i = .int .i64 k ∧ Hid (∀ j, j < k → telB p T j = false)) (fun i _ _ => p - (intOf i).toNat)
  case atStart => exact ⟨0, Nat.zero_le _, rfl, fun j hj => absurd hj (Nat.not_lt_zero _)⟩
  case round =>
    obtain ⟨k, hk, rfl, hnot⟩ := hrel
    by_cases hlt : k < p
    · have Hs0 := Lib.hid (telK_succ T k)
      have Hk0 : Hid (telK T k 0 = true) := by unfold Hid telK; rfl
      have hmk : min k 64 = k := by omega
      go_wp2
      go_loop [6, 7] (fun a i => ∃ W : Nat, W ≤ N ∧ i = .int .i64 W ∧ a = .bool (telK T k W)) (fun _ i => N - (intOf i).toNat)
      case atStart => exact ⟨0, Nat.zero_le _, rfl, by rw [Hk0.out]⟩
      case round =>
        obtain ⟨W, hW, rfl, rfl⟩ := hrel
        have hs := Hs0.out W
        by_cases hWl : W < N
        · have hb1 := bit_tmod T W
          have hb2 := bit_tmod W k
          have hmW : min W 64 = W := by omega
          cases ha : telK T k W with
          | false =>
            rw [ha, Bool.false_and] at hs
            have Hs := Lib.hid hs
            clear hs hb1 hb2 ha
            go_wp2
            go_round
            case rel => exact ⟨W + 1, by omega, by go_num, by rw [Hs.out]⟩
            case measure => simp [intOf]; omega
          | true =>
            rw [ha, Bool.true_and] at hs
            clear ha
            cases ht : T.testBit W with
            | false =>
              rw [ht] at hs
              rw [bitZ_no ht] at hb1
              have Hs := Lib.hid hs
              clear hs ht hb2
              go_wp2
              go_round
              case rel => exact ⟨W + 1, by omega, by go_num, by rw [Hs.out]; rfl⟩
              case measure => simp [intOf]; omega
            | true =>
              rw [ht] at hs
              rw [bitZ_yes ht] at hb1
              cases hw : W.testBit k with
              | false =>
                rw [hw] at hs
                rw [bitZ_no hw] at hb2
                have Hs := Lib.hid hs
                clear hs ht hw
                go_wp2
                go_round
                case rel => exact ⟨W + 1, by omega, by go_num, by rw [Hs.out]; rfl⟩
                case measure => simp [intOf]; omega
              | true =>
                rw [hw] at hs
                rw [bitZ_yes hw] at hb2
                have Hs := Lib.hid hs
                clear hs ht hw
                go_wp2
                go_round
                case rel => exact ⟨W + 1, by omega, by go_num, by rw [Hs.out]; rfl⟩
                case measure => simp [intOf]; omega
        · obtain rfl : W = N := Nat.le_antisymm hW (Nat.le_of_not_lt hWl)
          have hdk := Hd.out k
          clear hs
          cases ha : telK T k W with
          | true =>
            rw [ha] at hdk
            have Hr := Lib.hid (Hat.out k hlt hdk hnot.out)
            clear ha hdk
            go_wp2
            go_ret
            exact ⟨ret_int (by rw [Hr.out]), rfl⟩
          | false =>
            rw [ha] at hdk
            have Hn2 : Hid (∀ j, j < k + 1 → telB p T j = false) := fun j hj => by
              by_cases e : j = k
              · rw [e]; exact hdk
              · exact hnot.out j (by omega)
            clear ha hdk
            go_wp2
            go_round
            case rel => exact ⟨k + 1, by omega, by go_num, Hn2.out⟩
            case measure => simp [intOf]; omega
    · obtain rfl : k = p := Nat.le_antisymm hk (Nat.le_of_not_lt hlt)
      have Hr := Lib.hid (Hnone.out hnot.out)
      go_wp2
      go_ret
      exact ⟨ret_int (by rw [Hr.out]), rfl⟩
set_option maxRecDepth 100000 in
set_option maxHeartbeats 4000000 in
theorem specAsked13 (p T i j : Nat) (s : Bool) (h4 : p ≤ 4) (hi : i < p) (hj : j < p) (_hT : T < 65536) (w : World) :
    Calls Tryd.prog 43 #[.int .i64 p, .int .i64 T, .int .i64 i, .int .i64 j, .bool s] w fun e w' => e = .returned (.int .i64 (askN p T i j s)) ∧ ∃ n, w.drewN n = w' := by
  obtain ⟨N, hN⟩ : ∃ N, N = 2 ^ p := ⟨_, rfl⟩
  have hsh := shl_p h4 hN
  have hshk := shl_pk h4 hN
  have hN16 := two_16 h4 hN
  have hmp : min p 64 = p := by omega
  obtain ⟨f, hf⟩ : ∃ f : Nat → Bool, f = fun w => T.testBit w && ((w.testBit i == w.testBit j) == s) := ⟨_, rfl⟩
  have Hd : Hid (askN p T i j s = tabF N f) := by unfold Hid askN; rw [hN, hf]
  have Hf : Hid (∀ w, f w = (T.testBit w && ((w.testBit i == w.testBit j) == s))) := fun w => by rw [hf]
  have hmi : min i 64 = i := by omega
  have hmj : min j 64 = j := by omega
  clear hN hf
  go_enter Tryd.func43, Tryd.ntmps43
  go_wp2
  go_loopw [11, 12] (fun t i wr => ∃ W : Nat, W ≤ N ∧ i = .int .i64 W ∧ t = .int .i64 (tabF W f : Nat) ∧ ∃ n, w.drewN n = wr) (fun _ i _ => N - (intOf i).toNat)
  case atStart => exact ⟨0, Nat.zero_le _, rfl, by unfold tabF; rfl, 0, rfl⟩
  case round =>
    obtain ⟨W, hW, rfl, rfl, nd, rfl⟩ := hrel
    by_cases hlt : W < N
    · have hs := tabF_succ W f
      have hor := or_shlN (t := tabF W f) (x := W) (N := N) (Nat.lt_of_lt_of_le (tabF_lt W _) (Nat.pow_le_pow_right (by decide) hW)) hN16 hlt
      rw [Nat.min_eq_left (by omega)] at hor
      rw [Hf.out W] at hs
      have hmW : min W 64 = W := by omega
      have hb1 := bit_tmod T W
      have hb2 := bit_tmod W i
      have hb3 := bit_tmod W j
      generalize tabF W f = A at *
      cases ht : T.testBit W with
      | false =>
        rw [ht] at hs
        rw [bitZ_no ht] at hb1
        have hs2 : tabF (W + 1) f = A := hs
        have Hs := Lib.hid hs2
        clear hs hs2 ht hb2 hb3 hor
        go_upto_region 5 with fail
        go_quiet (fail)
        all_goals go_wp2
        all_goals
          go_roundw
          case rel => exact ⟨W + 1, by omega, by go_num, by rw [Hs.out], by first | exact ⟨_, rfl⟩ | exact ⟨_, (World.drewN_drewN _ _ _).symm⟩⟩
          case measure => simp [intOf]; omega
      | true =>
        rw [ht] at hs
        rw [bitZ_yes ht] at hb1
        clear ht
        cases h2 : W.testBit i <;> cases h3 : W.testBit j <;> cases s
        all_goals
          rw [h2, h3] at hs
          first
            | rw [bitZ_no h2] at hb2
            | rw [bitZ_yes h2] at hb2
          first
            | rw [bitZ_no h3] at hb3
            | rw [bitZ_yes h3] at hb3
          clear h2 h3
        all_goals
          first
            | (have hs2 : tabF (W + 1) f = A := hs
               have Hs := Lib.hid hs2
               clear hs hs2 hor
               go_upto_region 5 with fail
               go_quiet (fail)
               go_wp2
               go_roundw
               case rel => exact ⟨W + 1, by omega, by go_num, by rw [Hs.out], by first | exact ⟨_, rfl⟩ | exact ⟨_, (World.drewN_drewN _ _ _).symm⟩⟩
               case measure => simp [intOf]; omega)
            | (have hs2 : tabF (W + 1) f = A ||| 1 <<< W := hs
               have Hs := Lib.hid hs2
               clear hs hs2
               go_upto_region 5 with fail
               go_quiet (fail)
               go_wp2
               go_roundw
               case rel => exact ⟨W + 1, by omega, by go_num, by rw [Hs.out, ← hor], by first | exact ⟨_, rfl⟩ | exact ⟨_, (World.drewN_drewN _ _ _).symm⟩⟩
               case measure => simp [intOf]; omega)
    · obtain rfl : W = N := Nat.le_antisymm hW (Nat.le_of_not_lt hlt)
      go_wp2
      go_ret
      exact ⟨ret_int (by rw [Hd.out]), nd, rfl⟩
set_option maxRecDepth 100000 in
set_option maxHeartbeats 1000000 in
theorem specKnownTeller (p t : Int) (w : World) :
    Calls Tryd.prog 10 #[.int .i64 p, .int .i64 t] w fun e w' => e = .returned (.int .i64 (ktV p t)) ∧ w = w' := by
  have Ht := Lib.hid (fun w => specTableOk p t w)
  cases ht : tOk p t with
  | false =>
    have Hv := Lib.hid (ktV_no ht)
    rw [ht] at Ht
    clear ht
    go_enter Tryd.func10, Tryd.ntmps10
    go_wp2_with fail
    refine (Ht.out _).mono ?_
    rintro e w' ⟨rfl, rfl⟩
    go_wp2
    go_ret
    exact ⟨ret_int (by rw [Hv.out]), rfl⟩
  | true =>
    obtain ⟨h1, h4, h3, h5⟩ := tOk_lt ht
    obtain ⟨T, rfl⟩ := Int.eq_ofNat_of_zero_le h3
    obtain ⟨P, rfl⟩ := Int.eq_ofNat_of_zero_le (show 0 ≤ p by omega)
    by_cases h0 : T = 0
    · subst h0
      have Hv := Lib.hid (ktV_zero (P : Int))
      rw [ht] at Ht
      clear ht
      go_enter Tryd.func10, Tryd.ntmps10
      go_wp2_with fail
      refine (Ht.out _).mono ?_
      rintro e w' ⟨rfl, rfl⟩
      go_wp2
      go_ret
      exact ⟨ret_int (by rw [show ((0 : Nat) : Int) = 0 from rfl, Hv.out]), rfl⟩
    · have Hv := Lib.hid (ktV_yes ht h0)
      have Hc := Lib.hid (fun w => specTeller13 P T (by omega) (by omega) w)
      have hne : ((T : Int) == 0) = false := by rw [beq_eq_false_iff_ne]; omega
      rw [ht] at Ht
      clear ht h0
      generalize telN P T = z at *
      go_enter Tryd.func10, Tryd.ntmps10
      go_wp2_with fail
      refine (Ht.out _).mono ?_
      rintro e w' ⟨rfl, rfl⟩
      go_wp2_with fail
      refine (Hc.out _).mono ?_
      rintro e w' ⟨rfl, rfl⟩
      go_wp2
      go_ret
      exact ⟨ret_int (by rw [Hv.out]), rfl⟩
set_option maxRecDepth 100000 in
set_option maxHeartbeats 8000000 in
theorem specLeast13 (p : Nat) (h4 : p ≤ 4) : ∀ (m T : Nat), m ≤ 4 → T < 65536 → ∀ w : World,
    Calls Tryd.prog 30 #[.int .i64 p, .int .i64 T, .int .i64 m] w fun e w' => e = .returned (.int .i64 (lv p m T)) ∧ ∃ n, w.drewN n = w' := by
  intro m
  induction m with
  | zero =>
    intro T hm hT w
    have Ht := Lib.hid (fun w => specTeller13 p T h4 hT w)
    cases hd : done0 p T with
    | true =>
      have Hv := Lib.hid (lv_done (m := 0) hd)
      have hd' := done0_tel.1 hd
      clear hd
      by_cases h0 : T = 0
      · subst h0
        go_enter Tryd.func30, Tryd.ntmps30
        go_wp2
        go_ret
        exact ⟨ret_int (by rw [Hv.out]), 0, rfl⟩
      · have ht : 0 ≤ telN p T := hd'.resolve_left h0
        have hne : ((T : Int) == 0) = false := by rw [beq_eq_false_iff_ne]; omega
        clear hd' h0
        generalize telN p T = z at *
        go_enter Tryd.func30, Tryd.ntmps30
        go_wp2_with fail
        refine (Ht.out _).mono ?_
        rintro e w' ⟨rfl, rfl⟩
        go_wp2
        go_ret
        exact ⟨ret_int (by rw [Hv.out]), 0, rfl⟩
    | false =>
      have Hv := Lib.hid (lv_zero hd)
      have h0 : T ≠ 0 := fun e => by rw [done0_tel.2 (.inl e)] at hd; cases hd
      have ht : telN p T < 0 := by
        by_cases h : 0 ≤ telN p T
        · rw [done0_tel.2 (.inr h)] at hd; cases hd
        · omega
      have hne : ((T : Int) == 0) = false := by rw [beq_eq_false_iff_ne]; omega
      clear hd h0
      generalize telN p T = z at *
      go_enter Tryd.func30, Tryd.ntmps30
      go_wp2_with fail
      refine (Ht.out _).mono ?_
      rintro e w' ⟨rfl, rfl⟩
      go_wp2
      go_ret
      exact ⟨ret_int (by rw [Hv.out]), 0, rfl⟩
  | succ m ih =>
    intro T hm hT w
    have Ht := Lib.hid (fun w => specTeller13 p T h4 hT w)
    cases hd : done0 p T with
    | true =>
      have Hv := Lib.hid (lv_done (m := m + 1) hd)
      have hd' := done0_tel.1 hd
      clear hd ih
      by_cases h0 : T = 0
      · subst h0
        go_enter Tryd.func30, Tryd.ntmps30
        go_wp2
        go_ret
        exact ⟨ret_int (by rw [Hv.out]), 0, rfl⟩
      · have ht : 0 ≤ telN p T := hd'.resolve_left h0
        have hne : ((T : Int) == 0) = false := by rw [beq_eq_false_iff_ne]; omega
        clear hd' h0
        generalize telN p T = z at *
        go_enter Tryd.func30, Tryd.ntmps30
        go_wp2_with fail
        refine (Ht.out _).mono ?_
        rintro e w' ⟨rfl, rfl⟩
        go_wp2
        go_ret
        exact ⟨ret_int (by rw [Hv.out]), 0, rfl⟩
    | false =>
      have h0 : T ≠ 0 := fun e => by rw [done0_tel.2 (.inl e)] at hd; cases hd
      have ht : telN p T < 0 := by
        by_cases h : 0 ≤ telN p T
        · rw [done0_tel.2 (.inr h)] at hd; cases hd
        · omega
      have hne : ((T : Int) == 0) = false := by rw [beq_eq_false_iff_ne]; omega
      have Hall : Hid (∀ (D : Nat → Nat → Prop) b, Best p m T D b → (∀ i j, i < j → j < p → D i j) → lv p (m + 1) T = b) := fun D b h1 h2 => Best.all hd h1 h2
      have Ih := Lib.hid (fun U (hU : U < 65536) w => ih U (by omega) hU w)
      have Hask := Lib.hid (fun i j s (hi : i < p) (hj : j < p) w => specAsked13 p T i j s h4 hi hj hT w)
      clear hd h0 ih
      generalize telN p T = z at *
      obtain ⟨k, hk⟩ : ∃ k, k = m + 1 := ⟨_, rfl⟩
      rw [← hk]
      rw [← hk] at Hall hm
      have hm1 : (k : Int) - 1 = (m : Int) := by omega
      have hk0 : ((k : Int) == 0) = false := by rw [beq_eq_false_iff_ne]; omega
      have hm4 : m ≤ 4 := by omega
      clear hk
      go_enter Tryd.func30, Tryd.ntmps30
      go_wp2_with fail
      refine (Ht.out _).mono ?_
      rintro e w' ⟨rfl, rfl⟩
      go_wp2
      go_loopw [7, 8, 9, 10, 11, 12, 13] (fun b i _ _ _ _ _ wr => ∃ (I : Nat) (x : Int), I ≤ p ∧ i = .int .i64 I ∧ b = .int .i64 x ∧ -1 ≤ x ∧ x ≤ 6 ∧ Hid (Best p m T (fun i' _ => i' < I) x) ∧ ∃ n, w.drewN n = wr) (fun _ i _ _ _ _ _ _ => p - (intOf i).toNat)
      case atStart => exact ⟨0, -1, Nat.zero_le _, rfl, rfl, by omega, by omega, Best.none p m T (fun i j _ _ h => Nat.not_lt_zero _ h), 0, rfl⟩
      case round =>
        obtain ⟨I, x, hI, rfl, rfl, hx1, hx6, hbest, nd, rfl⟩ := hrel
        by_cases hIl : I < p
        · have Hb0 : Hid (Best p m T (fun i' j' => i' < I ∨ (i' = I ∧ j' < I + 1)) x) := hbest.out.weaken (fun i' j' h1 h2 h3 => by omega)
          clear hbest Hall
          go_wp2
          go_loopw [7, 9, 10, 11, 12, 13] (fun b i _ _ _ _ wr => ∃ (J : Nat) (x : Int), I < J ∧ (J ≤ p ∨ J = I + 1) ∧ i = .int .i64 J ∧ b = .int .i64 x ∧ -1 ≤ x ∧ x ≤ 6 ∧ Hid (Best p m T (fun i' j' => i' < I ∨ (i' = I ∧ j' < J)) x) ∧ ∃ n, w.drewN n = wr) (fun _ i _ _ _ _ _ => p - (intOf i).toNat)
          case atStart => exact ⟨I + 1, x, by omega, .inr rfl, by go_num, rfl, hx1, hx6, Hb0, nd, rfl⟩
          case round =>
            obtain ⟨J, x, hIJ, hJp, rfl, rfl, hx1, hx6, hbest, ne, rfl⟩ := hrel
            have hJ5 : J ≤ 5 := by omega
            clear Hb0
            by_cases hJl : J < p
            · have HY := Lib.hid (fun w => Hask.out I J true (by omega) hJl w)
              have HM := Lib.hid (fun w => Hask.out I J false (by omega) hJl w)
              have HIY := Lib.hid (fun w => Ih.out (askN p T I J true) (ask_small _ _ _ _ _ h4) w)
              have HIM := Lib.hid (fun w => Ih.out (askN p T I J false) (ask_small _ _ _ _ _ h4) w)
              have hYs := ask_small p T I J true h4
              have hMs := ask_small p T I J false h4
              have hla := lv_low p m (askN p T I J true)
              have hlb := lv_low p m (askN p T I J false)
              have hha := lv_high p m (askN p T I J true)
              have hhb := lv_high p m (askN p T I J false)
              have Hn1 : Hid (askN p T I J true = T → ¬ Good p m T I J) := fun h => good_no1 h
              have Hn2 : Hid (askN p T I J false = T → ¬ Good p m T I J) := fun h => good_no2 h
              have Hn3 : Hid (lv p m (askN p T I J true) < 0 → ¬ Good p m T I J) := fun h => good_no3 h
              have Hn4 : Hid (lv p m (askN p T I J false) < 0 → ¬ Good p m T I J) := fun h => good_no4 h
              have Hg : Hid (askN p T I J true ≠ T → askN p T I J false ≠ T → 0 ≤ lv p m (askN p T I J true) → 0 ≤ lv p m (askN p T I J false) → Good p m T I J) := fun a b c d => by unfold Good; exact ⟨a, b, c, d⟩
              have Hcost : Hid (costQ p m T I J = max (lv p m (askN p T I J true)) (lv p m (askN p T I J false)) + 1) := by unfold Hid costQ; rfl
              have Hskip : Hid (¬ Good p m T I J → Best p m T (fun i' j' => i' < I ∨ (i' = I ∧ j' < J + 1)) x) := fun h => hbest.out.skip h (fun i' j' h1 h2 h3 => by omega)
              have Htake : Hid (Good p m T I J → (x < 0 ∨ costQ p m T I J < x) → Best p m T (fun i' j' => i' < I ∨ (i' = I ∧ j' < J + 1)) (costQ p m T I J)) := fun h hb => hbest.out.take hIJ hJl h (fun i' j' h1 h2 h3 => by omega) hb
              have Hleave : Hid (0 ≤ x → x ≤ costQ p m T I J → Best p m T (fun i' j' => i' < I ∨ (i' = I ∧ j' < J + 1)) x) := fun h1 h2 => hbest.out.leave (fun i' j' h1 h2 h3 => by omega) h1 h2
              clear Ih Hask hbest
              generalize askN p T I J true = Y at *
              generalize askN p T I J false = M at *
              generalize costQ p m T I J = cq at *
              by_cases hYT : Y = T
              · have Hs := Lib.hid (Hskip.out (Hn1.out hYT))
                have e1 : ((Y : Int) == (T : Int)) = true := by rw [beq_iff_eq]; omega
                clear hYT Hskip Htake Hleave Hn1 Hn2 Hn3 Hn4 Hg Hcost HIY HIM hla hlb hha hhb
                go_wp2_with fail
                refine (HY.out _).mono ?_
                rintro e w' ⟨rfl, n1, rfl⟩
                go_wp2_with fail
                refine (HM.out _).mono ?_
                rintro e w' ⟨rfl, n2, rfl⟩
                go_wp2
                go_roundw
                case rel => exact ⟨J + 1, x, by omega, by omega, by go_num, rfl, hx1, hx6, Hs.out, _, rfl⟩
                case measure => simp [intOf]; omega
              · have e1 : ((Y : Int) == (T : Int)) = false := by rw [beq_eq_false_iff_ne]; omega
                by_cases hMT : M = T
                · have Hs := Lib.hid (Hskip.out (Hn2.out hMT))
                  have e2 : ((M : Int) == (T : Int)) = true := by rw [beq_iff_eq]; omega
                  clear hYT hMT Hskip Htake Hleave Hn1 Hn2 Hn3 Hn4 Hg Hcost HIY HIM hla hlb hha hhb
                  go_wp2_with fail
                  refine (HY.out _).mono ?_
                  rintro e w' ⟨rfl, n1, rfl⟩
                  go_wp2_with fail
                  refine (HM.out _).mono ?_
                  rintro e w' ⟨rfl, n2, rfl⟩
                  go_wp2
                  go_roundw
                  case rel => exact ⟨J + 1, x, by omega, by omega, by go_num, rfl, hx1, hx6, Hs.out, _, rfl⟩
                  case measure => simp [intOf]; omega
                · have e2 : ((M : Int) == (T : Int)) = false := by rw [beq_eq_false_iff_ne]; omega
                  have Hg2 := Lib.hid (Hg.out hYT hMT)
                  clear hYT hMT Hg Hn1 Hn2
                  generalize lv p m Y = a at *
                  generalize lv p m M = b at *
                  by_cases ha : a < 0
                  · have Hs := Lib.hid (Hskip.out (Hn3.out ha))
                    clear Hskip Htake Hleave Hn3 Hn4 Hg2 Hcost
                    go_wp2_with fail
                    refine (HY.out _).mono ?_
                    rintro e w' ⟨rfl, n1, rfl⟩
                    go_wp2_with fail
                    refine (HM.out _).mono ?_
                    rintro e w' ⟨rfl, n2, rfl⟩
                    go_wp2_with fail
                    first
                      | rw [hm1]
                      | skip
                    refine (HIY.out _).mono ?_
                    rintro e w' ⟨rfl, n3, rfl⟩
                    go_wp2_with fail
                    first
                      | rw [hm1]
                      | skip
                    refine (HIM.out _).mono ?_
                    rintro e w' ⟨rfl, n4, rfl⟩
                    go_wp2
                    go_roundw
                    case rel => exact ⟨J + 1, x, by omega, by omega, by go_num, rfl, hx1, hx6, Hs.out, _, rfl⟩
                    case measure => simp [intOf]; omega
                  · by_cases hb : b < 0
                    · have Hs := Lib.hid (Hskip.out (Hn4.out hb))
                      clear Hskip Htake Hleave Hn3 Hn4 Hg2 Hcost
                      go_wp2_with fail
                      refine (HY.out _).mono ?_
                      rintro e w' ⟨rfl, n1, rfl⟩
                      go_wp2_with fail
                      refine (HM.out _).mono ?_
                      rintro e w' ⟨rfl, n2, rfl⟩
                      go_wp2_with fail
                      first
                        | rw [hm1]
                        | skip
                      refine (HIY.out _).mono ?_
                      rintro e w' ⟨rfl, n3, rfl⟩
                      go_wp2_with fail
                      first
                        | rw [hm1]
                        | skip
                      refine (HIM.out _).mono ?_
                      rintro e w' ⟨rfl, n4, rfl⟩
                      go_wp2
                      go_roundw
                      case rel => exact ⟨J + 1, x, by omega, by omega, by go_num, rfl, hx1, hx6, Hs.out, _, rfl⟩
                      case measure => simp [intOf]; omega
                    · have hg := Hg2.out (by omega) (by omega)
                      obtain ⟨c, hc⟩ : ∃ c : Int, max a b = c := ⟨_, rfl⟩
                      have hc5 : 0 ≤ c ∧ c ≤ 4 := by omega
                      have hite : (if a < b then b else a) = c := by rw [← hc]; split <;> omega
                      have hite2 : (if b < a then a else b) = c := by rw [← hc]; split <;> omega
                      have hcq := Hcost.out
                      rw [hc] at hcq
                      subst hcq
                      clear Hskip Hn3 Hn4 Hg2 Hcost hc
                      by_cases hx : x < 0 ∨ c + 1 < x
                      · have Hs := Lib.hid (Htake.out hg hx)
                        clear Htake Hleave hg
                        rcases hx with hx | hx
                        all_goals
                          go_wp2_with fail
                          refine (HY.out _).mono ?_
                          rintro e w' ⟨rfl, n1, rfl⟩
                          go_wp2_with fail
                          refine (HM.out _).mono ?_
                          rintro e w' ⟨rfl, n2, rfl⟩
                          go_wp2_with fail
                          first
                            | rw [hm1]
                            | skip
                          refine (HIY.out _).mono ?_
                          rintro e w' ⟨rfl, n3, rfl⟩
                          go_wp2_with fail
                          first
                            | rw [hm1]
                            | skip
                          refine (HIM.out _).mono ?_
                          rintro e w' ⟨rfl, n4, rfl⟩
                          go_wp2
                          try rw [hite]
                          try rw [hite2]
                          try go_wp2
                          go_roundw
                          case rel => exact ⟨J + 1, c + 1, by omega, by omega, by go_num, by first | rfl | (rw [hite]) | (rw [hite2]), by omega, by omega, Hs.out, _, rfl⟩
                          case measure => simp [intOf]; omega
                      · have Hs := Lib.hid (Hleave.out (by omega) (by omega))
                        have hx0 : 0 ≤ x := by omega
                        have hxc : x ≤ c + 1 := by omega
                        clear Htake Hleave hg hx
                        go_wp2_with fail
                        refine (HY.out _).mono ?_
                        rintro e w' ⟨rfl, n1, rfl⟩
                        go_wp2_with fail
                        refine (HM.out _).mono ?_
                        rintro e w' ⟨rfl, n2, rfl⟩
                        go_wp2_with fail
                        first
                          | rw [hm1]
                          | skip
                        refine (HIY.out _).mono ?_
                        rintro e w' ⟨rfl, n3, rfl⟩
                        go_wp2_with fail
                        first
                          | rw [hm1]
                          | skip
                        refine (HIM.out _).mono ?_
                        rintro e w' ⟨rfl, n4, rfl⟩
                        go_wp2
                        try rw [hite]
                        try rw [hite2]
                        try go_wp2
                        go_roundw
                        case rel => exact ⟨J + 1, x, by omega, by omega, by go_num, rfl, by omega, by omega, Hs.out, _, rfl⟩
                        case measure => simp [intOf]; omega
            · have Hb1 : Hid (Best p m T (fun i' _ => i' < I + 1) x) := hbest.out.weaken (fun i' j' h1 h2 h3 => by omega)
              clear hbest
              go_wp2
              go_roundw
              case rel => exact ⟨I + 1, x, by omega, by go_num, rfl, hx1, hx6, Hb1.out, ne, rfl⟩
              case measure => simp [intOf]; omega
        · obtain rfl : I = p := Nat.le_antisymm hI (Nat.le_of_not_lt hIl)
          have Hr := Lib.hid (Hall.out _ _ hbest.out (fun i j h1 h2 => by omega))
          go_wp2
          go_ret
          exact ⟨ret_int (by rw [Hr.out]), nd, rfl⟩
set_option maxRecDepth 100000 in
set_option maxHeartbeats 1000000 in
theorem specLeastAsks (p t : Int) (w : World) :
    Calls Tryd.prog 16 #[.int .i64 p, .int .i64 t] w fun e w' => e = .returned (.int .i64 (leastV p t)) ∧ ∃ n, w.drewN n = w' := by
  have Ht := Lib.hid (fun w => specTableOk p t w)
  cases ht : tOk p t with
  | false =>
    have Hv := Lib.hid (leastV_no ht)
    rw [ht] at Ht
    clear ht
    go_enter Tryd.func16, Tryd.ntmps16
    go_wp2_with fail
    refine (Ht.out _).mono ?_
    rintro e w' ⟨rfl, rfl⟩
    go_wp2
    go_ret
    exact ⟨ret_int (by rw [Hv.out]), 0, rfl⟩
  | true =>
    obtain ⟨h1, h4, h3, h5⟩ := tOk_lt ht
    obtain ⟨T, rfl⟩ := Int.eq_ofNat_of_zero_le h3
    obtain ⟨P, rfl⟩ := Int.eq_ofNat_of_zero_le (show 0 ≤ p by omega)
    have Hv := Lib.hid (leastV_yes ht)
    have Hc := Lib.hid (fun w => specLeast13 P (by omega) P T (by omega) (by omega) w)
    rw [ht] at Ht
    clear ht
    generalize lv P P T = z at *
    go_enter Tryd.func16, Tryd.ntmps16
    go_wp2_with fail
    refine (Ht.out _).mono ?_
    rintro e w' ⟨rfl, rfl⟩
    go_wp2_with fail
    refine (Hc.out _).mono ?_
    rintro e w' ⟨rfl, nd, rfl⟩
    go_wp2
    go_ret
    exact ⟨ret_int (by rw [Hv.out]), nd, rfl⟩
end Go.Proofs.YtbnickgjnglblaaDoor

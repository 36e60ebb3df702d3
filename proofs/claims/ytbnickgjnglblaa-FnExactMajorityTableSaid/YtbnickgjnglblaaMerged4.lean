/- Texts of a proof, merged: Tables, DrawT, Term, Truth, MajM. -/
import Derived.Test.YtbnickgjnglblaaPeople
import Derived.Test.YtbnickgjnglblaaDraw
import Derived.Test.YtbnickgjnglblaaBase
/- Contracts of chapter 1's functions: tables and lists of worlds, in the program and in the reference model. -/
namespace Go.Proofs.Ytbnickgjnglblaa
open Go.RowKit

/-- the worlds of a table; none for what is no table -/
def wlp (p t : Int) : List Nat := if tOk p t = true then wl t.toNat (2 ^ p.toNat) else []
theorem wlp_no {p t : Int} (h : tOk p t = false) : wlp p t = [] := by simp [wlp, h]
theorem wlp_yes {p t : Int} (h : tOk p t = true) : wlp p t = wl t.toNat (2 ^ p.toNat) := by simp [wlp, h]
theorem wl_all_le (T N : Nat) : ∀ z ∈ wl T N, z < N := fun _ hz => (wl_mem.1 hz).1

set_option maxHeartbeats 400000 in
theorem implWorldsIn_yes (p : Int) (T N : Nat) (h : Hid (tOk p T = true)) (hN : Hid ((N : Int) = 2 ^ p.toNat)) (hN16 : N ≤ 16) (w : World) :
    Calls Try.prog 16 #[.int .i64 p, .int .i64 T] w fun e w' => ∃ v, e = .returned v ∧ w'.ownsRow w.heap.size 3 1 v (wl T N).length (vals (wl T N)) ∧ Below w.heap.size w w' := by
  obtain ⟨i0, hi, hz0, hz1, hz2⟩ := info_parts Try.info3
  have hT := tOk_lt h.out
  obtain ⟨hp1, hp2, _, hT2⟩ := hT
  go_enter Try.func16, Try.ntmps16
  go_wp2_with fail
  refine (implTableOk _ _ _).mono ?_
  rintro e w' ⟨rfl, rfl⟩
  rw [h.out]
  go_wp2_with fail
  refine (implWorldCount p N hN hp1 hp2 _).mono ?_
  rintro e w' ⟨rfl, rfl⟩
  go_wp2
  have Hi := Lib.hid hi; clear hi
  have Hz0 := Lib.hid hz0; clear hz0
  have Hz1 := Lib.hid hz1; clear hz1
  have Hz2 := Lib.hid hz2; clear hz2
  obtain ⟨wo, rfl⟩ : ∃ wo : World, wo = w := ⟨_, rfl⟩
  go_loopw [5, 6, 13] (fun v _ i wr => ∃ k : Nat, k ≤ N ∧ i = .int .i64 k ∧ wr.ownsRow wo.heap.size 3 1 v (wl T k).length (vals (wl T k)) ∧ Below wo.heap.size wo wr)
    (fun _ _ i _ => N - (intOf i).toNat)
  case atStart => exact ⟨0, Nat.zero_le _, rfl, World.ownsRow_nil _ _ _ _, Below.refl _ _⟩
  case round =>
    obtain ⟨k, hk, rfl, hown, hbel⟩ := hrel
    by_cases hlt : k < N
    · by_cases hbit : T.testBit k = true
      · have htest := and_one_yes (by omega) hbit
        go_wp2_with (at_builtin; refine wpList_append_own _ rfl _ _ 33 rfl wo.heap.size 3 i0 (.int .i64 0) 1 8 Try.underlying33 Hi.out Hz0.out Hz1.out Hz2.out rfl (by decide) _ _ _ rfl (hown.alloc _) ⟨wr.heap.size, 0, none⟩ 1 1 [.int .i64 k] rfl rfl ?c1 ?c2 ?c3 ?c4 ?c5 ?_)
        case c1 => exact (cell_one_new _ _ _)
        case c2 => simp [Value.oneCell']
        case c3 => have := wl_le T k; unfold maxLen; omega
        case c4 => have := wl_le T k; omega
        case c5 => have := hbel.size; simp; omega
        intro v' w1 hown' hgrow _
        have hs := wl_succ T k
        rw [if_pos hbit] at hs
        have hb1 : Below wo.heap.size wo w1 := (hbel.alloc hbel.size _).grown hgrow (by simp; have := hbel.size; omega) (fun k hk => (hown.lt k hk).1)
        have ho1 : w1.ownsRow wo.heap.size 3 1 v' (wl T (k+1)).length (vals (wl T (k+1))) := by
          rw [hs]; simpa [vals] using hown'
        clear hs hown' hgrow hown
        go_wp2
        go_roundw
        case rel => exact ⟨k + 1, by omega, by go_num, ho1, hb1⟩
        case measure => simp [intOf]; omega
      · have hbit' : T.testBit k = false := by simpa using hbit
        have htest := and_one_no (by omega) hbit'
        have hs := wl_succ T k
        rw [if_neg hbit, List.append_nil] at hs
        have ho1 : wr.ownsRow wo.heap.size 3 1 u5 (wl T (k+1)).length (vals (wl T (k+1))) := by
          rw [hs]; exact hown
        clear hs hown
        go_wp2
        go_roundw
        case rel => exact ⟨k + 1, by omega, by go_num, ho1, hbel⟩
        case measure => simp [intOf]; omega
    · have : k = N := by omega
      subst this
      go_wp2
      go_ret
      exact ⟨_, rfl, hown, hbel⟩

set_option maxHeartbeats 400000 in
theorem implWorldsIn_no (p x : Int) (h : Hid (tOk p x = false)) (w : World) :
    Calls Try.prog 16 #[.int .i64 p, .int .i64 x] w fun e w' => e = .returned (.slice none 0 0) ∧ w = w' := by
  go_enter Try.func16, Try.ntmps16
  go_wp2_with fail
  refine (implTableOk _ _ _).mono ?_
  rintro e w' ⟨rfl, rfl⟩
  rw [h.out]
  go_wp2
  go_ret
  exact ⟨rfl, rfl⟩

theorem implWorldsIn (p t : Int) (w : World) :
    Calls Try.prog 16 #[.int .i64 p, .int .i64 t] w fun e w' => ∃ v, e = .returned v ∧ w'.ownsRow w.heap.size 3 1 v (wlp p t).length (vals (wlp p t)) ∧ Below w.heap.size w w' := by
  by_cases h : tOk p t = true
  · obtain ⟨hp1, hp2, h0, h1⟩ := tOk_lt h
    obtain ⟨T, rfl⟩ := Int.eq_ofNat_of_zero_le h0
    rw [wlp_yes h]
    refine implWorldsIn_yes p T (2 ^ p.toNat) h (cnt_of p) ?_ w
    rcases p_cases hp1 hp2 with rfl | rfl | rfl | rfl <;> decide
  · have h' : tOk p t = false := by simpa using h
    rw [wlp_no h']
    refine (implWorldsIn_no p t h' w).mono ?_
    rintro e w' ⟨rfl, rfl⟩
    exact ⟨_, rfl, World.ownsRow_nil _ _ _ _, Below.refl _ _⟩


/-- the table of some worlds; -1 if one of them is none -/
def allW (p : Int) (zs : List Int) : Bool := zs.all fun z => wOk p z
def tow (p : Int) (zs : List Int) : Int := if pOk p && allW p zs then (tabOf (zs.map Int.toNat) : Int) else -1
theorem tow_bad {p : Int} {zs : List Int} {k : Nat} (hk : k < zs.length) (h : wOk p (zs.getD k 0) = false) : tow p zs = -1 := by
  have hf : allW p zs = false := by
    rw [allW, List.all_eq_false]
    refine ⟨zs.getD k 0, ?_, by rw [h]; decide⟩
    have e : zs.getD k 0 = zs[k] := by simp [List.getD, hk]
    rw [e]; exact List.getElem_mem hk
  simp [tow, hf]
theorem tow_no {p : Int} {zs : List Int} (h : pOk p = false) : tow p zs = -1 := by simp [tow, h]
theorem tow_yes {p : Int} {zs : List Int} (h : pOk p = true) (h' : ∀ j, j < zs.length → wOk p (zs.getD j 0) = true) : tow p zs = (tabOf (zs.map Int.toNat) : Int) := by
  have : allW p zs = true := by
    rw [allW, List.all_eq_true]
    intro z hz
    obtain ⟨j, hj, rfl⟩ := List.getElem_of_mem hz
    have := h' j hj
    rwa [show zs.getD j 0 = zs[j] from by simp [List.getD, hj]] at this
  simp [tow, h, this]
/-- the table of the first k worlds -/
def tabK (zs : List Int) (k : Nat) : Nat := tabOf ((zs.take k).map Int.toNat)
theorem tabK_succ {zs : List Int} {k : Nat} (hk : k < zs.length) : tabK zs (k + 1) = tabK zs k ||| 1 <<< (zs.getD k 0).toNat := by
  unfold tabK
  rw [List.take_succ_eq_append_getElem hk, List.map_append]
  have e : zs.getD k 0 = zs[k] := by simp [List.getD, hk]
  rw [e]
  exact tabOf_snoc _ _
theorem tabK_lt {p : Int} {zs : List Int} {k : Nat} (h : ∀ j, j < k → wOk p (zs.getD j 0) = true) (hk : k ≤ zs.length) : tabK zs k < 65536 := by
  refine tabOf_lt _ 16 fun i hi => ?_
  obtain ⟨z, hz, rfl⟩ := List.mem_map.1 hi
  obtain ⟨j, hj, rfl⟩ := List.getElem_of_mem hz
  have hj' : j < k := by simp at hj; omega
  have := h j hj'
  have e : zs.getD j 0 = (zs.take k)[j] := by simp [List.getD, show j < zs.length by omega]
  rw [e] at this
  have := wOk_lt this
  omega
theorem or_shl {t x : Nat} (ht : t < 65536) (hx : x < 16) : bits BinOp.or IntKind.i64 (t : Int) (wrap64 (2 ^ min x 64)) = ((t ||| 1 <<< x : Nat) : Int) := by
  have e : (2 : Int) ^ min x 64 = ((1 <<< x : Nat) : Int) := by
    rw [Nat.min_eq_left (by omega), Nat.one_shiftLeft]; simp
  have hl : 1 <<< x ≤ 65536 := by
    rw [Nat.one_shiftLeft]; exact Nat.le_trans (Nat.pow_le_pow_right (by decide) (show x ≤ 16 by omega)) (by decide)
  rw [e]
  generalize 1 <<< x = y at *
  have hw : wrap64 (y : Int) = (y : Int) := by unfold wrap64; omega
  rw [hw, bits_or_nat _ _ (by omega) (by omega)]

theorem or_shlN {t x N : Nat} (ht : t < 2 ^ N) (hN : N ≤ 16) (hx : x < N) : bits BinOp.or IntKind.i64 (t : Int) (wrap64 (2 ^ min x 64)) = ((t ||| 1 <<< x : Nat) : Int) :=
  or_shl (Nat.lt_of_lt_of_le ht (by exact Nat.pow_le_pow_right (by decide) hN)) (by omega)
theorem below_drewN {B : Nat} {a w : World} (h : Below B a w) (n : Nat) : Below B a (w.drewN n) := h.trans ⟨rfl, rfl, rfl, Nat.le_refl _, fun _ _ => rfl⟩


set_option maxHeartbeats 400000 in
theorem specIn (n a b : Int) (w : World) :
    Calls Try.prog 23 #[.int .i64 n, .int .i64 a, .int .i64 b] w fun e w' => e = .returned (.bool (decide (a ≤ n ∧ n ≤ b))) ∧ w = w' := by
  by_cases h : a ≤ n
  all_goals
    go_enter Try.func23, Try.ntmps23
    go_wp2
    go_ret
    exact ⟨ret_bool (by rw [Bool.eq_iff_iff]; simp; omega), rfl⟩


/-! ### the opposite table -/
/-- the worlds of a table below n, each turned round -/
def turned (T n : Nat) (k : Nat) : Nat := tabOf ((wl T k).map fun i => n - 1 - i)
theorem turned_lt {T n k : Nat} (_hk : k ≤ n) (hn : 0 < n) : turned T n k < 2 ^ n :=
  tabOf_lt _ _ fun i hi => by obtain ⟨j, hj, rfl⟩ := List.mem_map.1 hi; omega
theorem turned_succ (T n k : Nat) : turned T n (k + 1) = if T.testBit k then turned T n k ||| 1 <<< (n - 1 - k) else turned T n k := by
  unfold turned
  rw [wl_succ]
  split
  · rw [List.map_append]; exact tabOf_snoc _ _
  · simp
def opt (p t : Int) : Int := if tOk p t = true then (turned t.toNat (2 ^ p.toNat) (2 ^ p.toNat) : Int) else -1

theorem or_turn {T N k : Nat} (hk : k < N) (hN : N ≤ 16) :
    bits BinOp.or IntKind.i64 (turned T N k : Int) (wrap64 (((T : Int) / 2 ^ k).tmod 2 * 2 ^ (N - 1 - k))) = (turned T N (k + 1) : Int) := by
  have ht : turned T N k < 65536 := Nat.lt_of_lt_of_le (turned_lt (Nat.le_of_lt hk) (by omega)) (by exact Nat.pow_le_pow_right (by decide) hN)
  have hl : 1 <<< (N - 1 - k) ≤ 65536 := by
    rw [Nat.one_shiftLeft]; exact Nat.le_trans (Nat.pow_le_pow_right (by decide) (show N - 1 - k ≤ 16 by omega)) (by decide)
  have e : (2 : Int) ^ (N - 1 - k) = ((1 <<< (N - 1 - k) : Nat) : Int) := by rw [Nat.one_shiftLeft]; simp
  rw [tmod_two_val, turned_succ, e]
  generalize 1 <<< (N - 1 - k) = y at *
  have hw : wrap64 (y : Int) = (y : Int) := by unfold wrap64; omega
  split
  · rw [Int.one_mul, hw, bits_or_nat _ _ (by omega) (by omega)]
  · rw [Int.zero_mul]
    have := bits_or_nat (turned T N k) 0 (by omega) (by decide)
    rw [show wrap64 0 = ((0 : Nat) : Int) from by unfold wrap64; decide, this, Nat.or_zero]

set_option maxHeartbeats 1000000 in
theorem specTurned (p : Int) (T N : Nat) (h1 : 1 ≤ p) (h2 : p ≤ 4) (hN : Hid ((N : Int) = 2 ^ p.toNat)) (w : World) :
    Calls Try.prog 37 #[.int .i64 p, .int .i64 T] w fun e w' => e = .returned (.int .i64 (turned T N N)) ∧ ∃ n, w.drewN n = w' := by
  have hNe := hN.out
  have hsh : wrap64 (2 ^ p.toNat) = (N : Int) := by rcases p_cases h1 h2 with rfl | rfl | rfl | rfl <;> (rw [hNe]; decide +kernel)
  have hN1 : 2 ≤ N ∧ N ≤ 16 := by rcases p_cases h1 h2 with rfl | rfl | rfl | rfl <;> (simp at hNe; omega)
  obtain ⟨hN2, hN16⟩ := hN1
  clear hNe
  go_enter Try.func37, Try.ntmps37
  go_wp2
  go_loopw [5, 6] (fun t i wr => ∃ k : Nat, k ≤ N ∧ i = .int .i64 k ∧ t = .int .i64 (turned T N k) ∧ ∃ n, w.drewN n = wr) (fun _ i _ => N - (intOf i).toNat)
  case atStart => exact ⟨0, Nat.zero_le _, rfl, rfl, 0, rfl⟩
  case round =>
    obtain ⟨k, hk, rfl, rfl, nd, rfl⟩ := hrel
    by_cases hlt : k < N
    · have Hor := Lib.hid (or_turn (T := T) hlt hN16)
      go_wp2_with fail
      go_quiet (fail)
      rw [Hor.out]
      go_wp2
      go_roundw
      case rel => exact ⟨k + 1, by omega, by go_num, rfl, _, rfl⟩
      case measure => simp [intOf]; omega
    · go_wp2
      go_ret
      obtain rfl : k = N := by omega
      exact ⟨rfl, nd, rfl⟩


theorem two_pow_N {p : Int} (h1 : 1 ≤ p) (h2 : p ≤ 4) : 2 ≤ 2 ^ p.toNat ∧ 2 ^ p.toNat ≤ 16 := by
  rcases p_cases h1 h2 with rfl | rfl | rfl | rfl <;> decide
theorem opt_no {p t : Int} (h : tOk p t = false) : opt p t = -1 := by simp [opt, h]
theorem opt_yes {p : Int} {T : Nat} (h : tOk p T = true) : opt p T = (turned T (2 ^ p.toNat) (2 ^ p.toNat) : Int) := by simp [opt, h]


/-- what impl.OppositeTable has come to after k worlds of a list -/
def turnK (N : Nat) (l : List Nat) (k : Nat) : Nat := tabOf ((l.take k).map fun i => N - 1 - i)
theorem turnK_succ {N : Nat} {l : List Nat} {k : Nat} (hk : k < l.length) : turnK N l (k + 1) = turnK N l k ||| 1 <<< (N - 1 - l[k]) := by
  unfold turnK
  rw [List.take_succ_eq_append_getElem hk, List.map_append]
  exact tabOf_snoc _ _
theorem turnK_lt {N : Nat} {l : List Nat} {k : Nat} (hN : 0 < N) : turnK N l k < 2 ^ N :=
  tabOf_lt _ _ fun i hi => by obtain ⟨j, hj, rfl⟩ := List.mem_map.1 hi; omega

set_option maxHeartbeats 1000000 in
theorem implOppositeTable (p t : Int) (w : World) :
    Calls Try.prog 11 #[.int .i64 p, .int .i64 t] w fun e w' => e = .returned (.int .i64 (opt p t)) ∧ Below w.heap.size w w' := by
  by_cases h : tOk p t = true
  · obtain ⟨h1, h2, h3, h4⟩ := tOk_lt h
    obtain ⟨T, rfl⟩ := Int.eq_ofNat_of_zero_le h3
    have H := Lib.hid h
    have Ho := Lib.hid (opt_yes h)
    have Hw := Lib.hid (wlp_yes h)
    have HN := cnt_of p
    obtain ⟨hN2, hN16⟩ := two_pow_N h1 h2
    have hwok : Hid (∀ x : Nat, x < 2 ^ p.toNat → wOk p x = true) := fun x hx => wOk_iff.2 ⟨h1, h2, by omega, by have := HN.out; rw [← this]; exact_mod_cast hx⟩
    clear h h3 h4
    generalize 2 ^ p.toNat = N at *
    go_enter Try.func11, Try.ntmps11
    go_wp2_with fail
    refine (implTableOk _ _ _).mono ?_
    rintro e w' ⟨rfl, rfl⟩
    rw [H.out]
    go_wp2_with fail
    refine (implWorldsIn _ _ _).mono ?_
    rintro e w1 ⟨v, rfl, hown, hbel⟩
    rw [Hw.out, Int.toNat_natCast] at hown
    have hwl := Lib.hid (wl_all_le T N)
    have hres : Hid (turnK N (wl T N) (wl T N).length = turned T N N) := by unfold turnK turned; rw [List.take_length]; rfl
    generalize wl T N = l at *
    rw [vals_nums, ← nums_length] at hown
    have hrd := RdInts.of_own hown
    obtain ⟨ao, cap, rfl, hl, hm, hc0⟩ := hrd
    have hc := Lib.hid hc0; clear hc0
    have hlen := nums_length l
    rw [hlen] at hl ⊢
    clear hown hlen
    unfold maxLen at hm
    go_wp2
    go_loop [5, 7, 16] (fun t _ i => ∃ k : Nat, k ≤ l.length ∧ i = .int .i64 k ∧ t = .int .i64 (turnK N l k)) (fun _ _ i => l.length - (intOf i).toNat)
    case atStart => exact ⟨0, Nat.zero_le _, rfl, rfl⟩
    case round =>
      obtain ⟨k, hk, rfl, rfl⟩ := hrel
      by_cases hlt : k < l.length
      · obtain ⟨b, off, rfl, hb, hcell⟩ := hc.out k (by rw [nums_length]; exact hlt)
        have hx : l[k] < N := hwl.out _ (List.getElem_mem hlt)
        have hg : (nums l).getD k 0 = (l[k] : Int) := by simp [nums, List.getD, hlt]
        rw [hg] at hcell
        clear hg
        have Hs := Lib.hid (turnK_succ (N := N) hlt)
        have Hl := Lib.hid (turnK_lt (N := N) (l := l) (k := k) (by omega))
        generalize l[k] = x at *
        have Hor := Lib.hid (or_shlN (t := turnK N l k) (x := N - 1 - x) Hl.out hN16 (by omega))
        rw [Nat.min_eq_left (show N - 1 - x ≤ 64 by omega)] at Hor
        generalize turnK N l k = t at *
        go_wp2_with fail
        refine (implOppositeWorld_yes p x N (hwok.out x hx) HN _).mono ?_
        rintro e w' ⟨rfl, rfl⟩
        rw [show ((N : Int) - 1 - (x : Int)) = ((N - 1 - x : Nat) : Int) from by omega]
        go_wp2
        go_round
        case rel => exact ⟨k + 1, by omega, by go_num, by rw [Hor.out, Hs.out]⟩
        case measure => simp [intOf]; omega
      · obtain rfl : k = l.length := by omega
        go_wp2
        go_ret
        exact ⟨ret_int (by rw [Ho.out, hres.out]), hbel⟩
  · have h' : tOk p t = false := by simpa using h
    refine (implOppositeTable_no p t h' w).mono ?_
    rintro e w' ⟨rfl, rfl⟩
    exact ⟨ret_int (by rw [opt_no h']), Below.refl _ _⟩

end Go.Proofs.Ytbnickgjnglblaa
/- The reference model's drawn tables. -/
namespace Go.Proofs.Ytbnickgjnglblaa
open Go.RowKit
attribute [local irreducible] heads turned tabOf wl

/-! ### tables -/
def PT (p t : Int) : Prop := 1 ≤ p ∧ p ≤ 8 ∧ -70000 ≤ t ∧ t < 65536
set_option maxRecDepth 100000 in
set_option maxHeartbeats 2000000 in
theorem l20Table (b c : Nat) (w : World) (hrd : Rd w b c) (hc : c ≤ 549755813888) :
    Calls Try.prog 36 #[.pointer (some ⟨b, 0, none⟩)] w (Drew2 PT b (c + 100) w) := by
  go_enter Try.func36, Try.ntmps36
  go_wp2_with fail
  refine (pick _ _ _ _ hrd (by omega) (by omega) (by omega)).mono ?_
  rintro e w1 ⟨x, hx0, hx1, rfl, hrd1, hg1⟩
  obtain ⟨X, rfl⟩ := Int.eq_ofNat_of_zero_le hx0
  clear hrd
  go_wp2_with fail
  refine (pick _ _ _ _ hrd1 (by omega) (by omega) (by omega)).mono ?_
  rintro e w2 ⟨thin, ht0, ht1, rfl, hrd2, hg2⟩
  have hG := grownBy_trans hg1 hg2
  clear hrd1 hg1 hg2 hx0
  generalize hP : (1 + (X : Int)) = P at *
  have hP1 : 1 ≤ P := by omega
  have hP4 : P ≤ 4 := by omega
  clear hP hx1
  have hN := cnt_of P
  obtain ⟨hN2, hN16⟩ := two_pow_N hP1 hP4
  generalize (2 : Nat) ^ P.toNat = N at *
  have hNe := hN.out
  have hsh : wrap64 (2 ^ P.toNat) = (N : Int) := by rw [← hNe]; unfold wrap64; omega
  clear hNe
  go_wp2_with fail
  go_loopw [5, 7] (fun t i wr => ∃ k tb : Nat, k ≤ N ∧ i = .int .i64 k ∧ t = .int .i64 tb ∧ Hid (tb < 2 ^ N) ∧ Rd wr b (c + 2 + k) ∧ w.grownBy wr (some b)) (fun _ i _ => N - (intOf i).toNat)
  case atStart => exact ⟨0, 0, Nat.zero_le _, rfl, rfl, Nat.two_pow_pos _, hrd2, hG⟩
  case round =>
    obtain ⟨k, tb, hk, rfl, rfl, htb, hrk, hGk⟩ := hrel
    by_cases hlt : k < N
    · go_wp2_with fail
      refine (pick _ _ _ _ hrk (by omega) (by omega) (by omega)).mono ?_
      rintro e w3 ⟨y, hy0, hy1, rfl, hrk3, hg3⟩
      have hG3 := grownBy_trans hGk hg3
      have Hr3 := Lib.hid hrk3
      have HG3 := Lib.hid hG3
      clear hrk hGk hrk3 hg3 hG3
      by_cases hy : y = 0
      · have hyb : (y == 0) = true := by rw [beq_iff_eq]; exact hy
        have Hor := Lib.hid (or_shlN (t := tb) (x := k) htb.out hN16 hlt)
        rw [Nat.min_eq_left (show k ≤ 64 by omega)] at Hor
        have Hlt : Hid (tb ||| 1 <<< k < 2 ^ N) := Nat.or_lt_two_pow htb.out (by rw [Nat.one_shiftLeft]; exact Nat.pow_lt_pow_right (by decide) hlt)
        clear hy
        go_wp2
        go_roundw
        case rel => exact ⟨k + 1, _, by omega, by go_num, by rw [Hor.out], Hlt, Hr3.out, HG3.out⟩
        case measure => simp [intOf]; omega
      · have hyb : (y == 0) = false := by rw [beq_eq_false_iff_ne]; exact hy
        clear hy
        go_wp2
        go_roundw
        case rel => exact ⟨k + 1, tb, by omega, by go_num, rfl, htb, Hr3.out, HG3.out⟩
        case measure => simp [intOf]; omega
    · have hlast : tb < 65536 := Nat.lt_of_lt_of_le htb.out (by exact Nat.pow_le_pow_right (by decide) hN16)
      have Hlast := Lib.hid hlast; clear hlast
      go_wp2_with fail
      refine (pick _ _ _ _ hrk (by omega) (by omega) (by omega)).mono ?_
      rintro e w3 ⟨y, hy0, hy1, rfl, hrk3, hg3⟩
      have hG3 := grownBy_trans hGk hg3
      clear hrk hGk hg3
      go_wp2_with fail
      refine (pick _ _ _ _ hrk3 (by omega) (by omega) (by omega)).mono ?_
      rintro e w4 ⟨z, hz0, hz1, rfl, hrk4, hg4⟩
      have hG4 := grownBy_trans hG3 hg4
      have Hr4 := Lib.hid (hrk4.mono (show c + 2 + k + 1 + 1 ≤ c + 100 by omega))
      have HG4 := Lib.hid hG4
      clear hrk3 hrk4 hG3 hg4 hG4
      have htl : (tb : Int) ≤ 100000 := by have := Hlast.out; omega
      go_wp2
      go_ret2
      exact ⟨_, _, ⟨by omega, by omega, by have := Hlast.out; omega, by have := Hlast.out; omega⟩, rfl, Hr4.out, HG4.out⟩
end Go.Proofs.Ytbnickgjnglblaa
/- Plain facts: rows of marks, the trees that they tell, and what is said of slices of marks in memory. Nothing here speaks of the program's text. -/
namespace Go.Proofs.Ytbnickgjnglblaa
open Go.RowKit

/-! ### terms -/
inductive Tm where
  | leaf (k x : Int)
  | un (t : Tm)
  | bin (k : Int) (a b : Tm)
def Tm.post : Tm → List (Int × Int)
  | .leaf k x => [(k, x)]
  | .un t => t.post ++ [(2, 0)]
  | .bin k a b => a.post ++ b.post ++ [(k, 0)]
def Tm.ok (p : Int) : Tm → Prop
  | .leaf k x => (k = 0 ∧ 0 ≤ x ∧ x < p) ∨ (k = 1 ∧ 0 ≤ x ∧ x ≤ p + 1)
  | .un t => t.ok p
  | .bin k a b => 3 ≤ k ∧ k ≤ 5 ∧ a.ok p ∧ b.ok p

/-- one mark read: the parts before it, the last one first; none if it is no mark there -/
def stepS (p : Int) (s : List Tm) (m : Int × Int) : Option (List Tm) :=
  if m.1 = 0 then (if 0 ≤ m.2 ∧ m.2 < p then some (.leaf 0 m.2 :: s) else none)
  else if m.1 = 1 then (if 0 ≤ m.2 ∧ m.2 ≤ p + 1 then some (.leaf 1 m.2 :: s) else none)
  else if m.1 = 2 then (if m.2 = 0 then (match s with | t :: r => some (.un t :: r) | [] => none) else none)
  else if 3 ≤ m.1 ∧ m.1 ≤ 5 then (if m.2 = 0 then (match s with | b :: a :: r => some (.bin m.1 a b :: r) | _ => none) else none)
  else none
def runS (p : Int) : List (Int × Int) → List Tm → Option (List Tm)
  | [], s => some s
  | m :: r, s => (stepS p s m).bind (runS p r)
theorem runS_append (p : Int) (xs ys : List (Int × Int)) (s : List Tm) : runS p (xs ++ ys) s = (runS p xs s).bind (runS p ys) := by
  induction xs generalizing s with
  | nil => rfl
  | cons m r ih =>
    show (stepS p s m).bind (runS p (r ++ ys)) = ((stepS p s m).bind (runS p r)).bind (runS p ys)
    cases h : stepS p s m with
    | none => rfl
    | some s' => exact ih s'
theorem runS_snoc (p : Int) (xs : List (Int × Int)) (m : Int × Int) (s : List Tm) : runS p (xs ++ [m]) s = (runS p xs s).bind fun s' => stepS p s' m := by
  rw [runS_append]
  cases runS p xs s with
  | none => rfl
  | some s' => show (stepS p s' m).bind _ = stepS p s' m
               cases stepS p s' m <;> rfl
/-- the marks of some parts, the last part first -/
def postS : List Tm → List (Int × Int)
  | [] => []
  | t :: r => postS r ++ t.post
theorem stepS_post {p : Int} {s s' : List Tm} {m : Int × Int} (h : stepS p s m = some s') : postS s' = postS s ++ [m] := by
  obtain ⟨k, x⟩ := m
  unfold stepS at h
  dsimp only at h
  split at h
  · rename_i hk; subst hk
    split at h
    · cases h; rfl
    · cases h
  · split at h
    · rename_i hk; subst hk
      split at h
      · cases h; rfl
      · cases h
    · split at h
      · rename_i hk; subst hk
        split at h
        · rename_i hx; subst hx
          split at h
          · cases h; simp [postS, Tm.post]
          · cases h
        · cases h
      · split at h
        · split at h
          · rename_i hx; subst hx
            split at h
            · cases h; simp [postS, Tm.post]
            · cases h
          · cases h
        · cases h
theorem stepS_ok {p : Int} {s s' : List Tm} {m : Int × Int} (h : stepS p s m = some s') (hs : ∀ t ∈ s, t.ok p) : ∀ t ∈ s', t.ok p := by
  obtain ⟨k, x⟩ := m
  unfold stepS at h
  dsimp only at h
  split at h
  · rename_i hk
    split at h
    · rename_i hx; cases h
      intro t ht
      rcases List.mem_cons.1 ht with rfl | ht
      · exact .inl ⟨rfl, hx.1, hx.2⟩
      · exact hs t ht
    · cases h
  · split at h
    · split at h
      · rename_i hx; cases h
        intro t ht
        rcases List.mem_cons.1 ht with rfl | ht
        · exact .inr ⟨rfl, hx.1, hx.2⟩
        · exact hs t ht
      · cases h
    · split at h
      · split at h
        · split at h
          · rename_i u r
            cases h
            intro t ht
            rcases List.mem_cons.1 ht with rfl | ht
            · exact hs u (by simp)
            · exact hs t (by simp [ht])
          · cases h
        · cases h
      · split at h
        · rename_i hk
          split at h
          · split at h
            · rename_i u v r
              cases h
              intro t ht
              rcases List.mem_cons.1 ht with rfl | ht
              · exact ⟨hk.1, hk.2, hs v (by simp), hs u (by simp)⟩
              · exact hs t (by simp [ht])
            · cases h
          · cases h
        · cases h
theorem runS_post {p : Int} : ∀ {ms : List (Int × Int)} {s s' : List Tm}, runS p ms s = some s' → postS s' = postS s ++ ms
  | [], s, s', h => by cases h; simp
  | m :: r, s, s', h => by
    cases hs : stepS p s m with
    | none => simp [runS, hs] at h
    | some s1 =>
      have h' : runS p r s1 = some s' := by simpa [runS, hs] using h
      rw [runS_post h', stepS_post hs]; simp
theorem runS_ok {p : Int} : ∀ {ms : List (Int × Int)} {s s' : List Tm}, runS p ms s = some s' → (∀ t ∈ s, t.ok p) → ∀ t ∈ s', t.ok p
  | [], s, s', h, hs => by cases h; exact hs
  | m :: r, s, s', h, hs => by
    cases h1 : stepS p s m with
    | none => simp [runS, h1] at h
    | some s1 =>
      have h' : runS p r s1 = some s' := by simpa [runS, h1] using h
      exact runS_ok h' (stepS_ok h1 hs)
theorem runS_tm {p : Int} : ∀ (t : Tm) (s : List Tm), t.ok p → runS p t.post s = some (t :: s)
  | .leaf k x, s, h => by
    rcases h with ⟨rfl, h1, h2⟩ | ⟨rfl, h1, h2⟩
    · simp [Tm.post, runS, stepS, h1, h2]
    · simp [Tm.post, runS, stepS, h1, h2]
  | .un t, s, h => by
    show runS p (t.post ++ [(2, 0)]) s = _
    rw [runS_snoc, runS_tm t s h]; rfl
  | .bin k a b, s, h => by
    obtain ⟨h1, h2, ha, hb⟩ := h
    show runS p (a.post ++ b.post ++ [(k, 0)]) s = _
    rw [runS_snoc, runS_append, runS_tm a s ha]
    show (runS p b.post (a :: s)).bind _ = _
    rw [runS_tm b (a :: s) hb]
    show stepS p (b :: a :: s) (k, 0) = _
    unfold stepS
    dsimp only
    rw [if_neg (by omega), if_neg (by omega), if_neg (by omega), if_pos ⟨h1, h2⟩, if_pos rfl]
/-- the term that a row of marks is -/
def termS (p : Int) (ms : List (Int × Int)) : Option Tm := match runS p ms [] with | some [t] => some t | _ => none
theorem termS_some {p : Int} {ms : List (Int × Int)} {t : Tm} : termS p ms = some t ↔ t.ok p ∧ ms = t.post := by
  constructor
  · intro h
    unfold termS at h
    split at h
    · rename_i t' h'
      cases h
      have h1 := runS_post h'
      have h2 := runS_ok h' (by simp) t (by simp)
      exact ⟨h2, by simpa [postS] using h1.symm⟩
    · cases h
  · rintro ⟨h1, rfl⟩
    unfold termS
    rw [runS_tm t [] h1]
theorem post_inj {p : Int} {a b : Tm} (ha : a.ok p) (hb : b.ok p) (h : a.post = b.post) : a = b := by
  have h1 := (termS_some (p := p)).2 ⟨ha, rfl⟩
  have h2 := (termS_some (p := p)).2 ⟨hb, h⟩
  rw [h1] at h2
  simpa using h2
def termOk (p : Int) (ms : List (Int × Int)) : Bool := decide (1 ≤ p ∧ p ≤ 4) && decide (ms.length ≤ 15) && (termS p ms).isSome
theorem termOk_iff {p : Int} {ms : List (Int × Int)} : termOk p ms = true ↔ (1 ≤ p ∧ p ≤ 4) ∧ ms.length ≤ 15 ∧ ∃ t : Tm, t.ok p ∧ ms = t.post := by
  unfold termOk
  rw [Bool.and_eq_true, Bool.and_eq_true, decide_eq_true_eq, decide_eq_true_eq, Option.isSome_iff_exists]
  simp only [termS_some, and_assoc]
/-- how many parts stand, after k marks -/
theorem termOk_of_run {p : Int} {ms : List (Int × Int)} {s : List Tm} (h : runS p ms [] = some s) (h1 : 1 ≤ p) (h2 : p ≤ 4) (hl : ms.length ≤ 15) : termOk p ms = decide (s.length = 1) := by
  unfold termOk termS
  rw [h]
  have e1 : decide (1 ≤ p ∧ p ≤ 4) = true := by simp [h1, h2]
  have e2 : decide (ms.length ≤ 15) = true := by simp [hl]
  rw [e1, e2]
  match s with
  | [] => rfl
  | [t] => rfl
  | a :: b :: r => simp
theorem termOk_no_run {p : Int} {ms : List (Int × Int)} {k : Nat} (h : runS p (ms.take k) [] = none) : termOk p ms = false := by
  have : runS p ms [] = none := by
    rw [← List.take_append_drop k ms, runS_append, h]; rfl
  unfold termOk termS
  rw [this]; simp
theorem termOk_no_len {p : Int} {ms : List (Int × Int)} (h : ¬ ms.length ≤ 15) : termOk p ms = false := by
  unfold termOk; simp [h]
theorem termOk_no_p {p : Int} {ms : List (Int × Int)} (h : ¬ (1 ≤ p ∧ p ≤ 4)) : termOk p ms = false := by
  unfold termOk; simp [h]
theorem take_snoc {α : Type} (d : α) (l : List α) (k : Nat) (h : k < l.length) : l.take (k + 1) = l.take k ++ [l.getD k d] := by
  rw [List.take_succ_eq_append_getElem h]; simp [List.getD, h]
theorem runS_take_succ (p : Int) (ms : List (Int × Int)) (k : Nat) (h : k < ms.length) {s : List Tm} (hs : runS p (ms.take k) [] = some s) :
    runS p (ms.take (k + 1)) [] = stepS p s (ms.getD k (0, 0)) := by
  rw [take_snoc (0, 0) ms k h, runS_snoc, hs]; rfl
theorem stepS_len {p : Int} {s s' : List Tm} {m : Int × Int} (h : stepS p s m = some s') : s'.length ≤ s.length + 1 := by
  obtain ⟨k, x⟩ := m
  unfold stepS at h
  dsimp only at h
  repeat' split at h
  all_goals first | (cases h; simp; done) | (cases h; simp; omega) | cases h
theorem runS_len {p : Int} {ms : List (Int × Int)} {s : List Tm} : ∀ {k : Nat}, k ≤ ms.length → runS p (ms.take k) [] = some s → s.length ≤ k := by
  intro k hk h
  induction k generalizing s with
  | zero => simp [runS] at h; subst h; simp
  | succ k ih =>
    cases h0 : runS p (ms.take k) [] with
    | none => rw [take_snoc (0, 0) ms k (by omega), runS_snoc, h0] at h; cases h
    | some s0 =>
      rw [runS_take_succ p ms k (by omega) h0] at h
      have := stepS_len h
      have := ih (by omega) h0
      omega

/-! ### slices of marks in memory -/
def I64 (x : Int) : Prop := -9223372036854775808 ≤ x ∧ x ≤ 9223372036854775807
def I64s (ms : List (Int × Int)) : Prop := ∀ m ∈ ms, I64 m.1 ∧ I64 m.2
theorem I64s.get {ms : List (Int × Int)} (h : I64s ms) {j : Nat} (hj : j < ms.length) : I64 (ms.getD j (0, 0)).1 ∧ I64 (ms.getD j (0, 0)).2 := by
  have : ms.getD j (0, 0) = ms[j] := by simp [List.getD, hj]
  rw [this]; exact h _ (List.getElem_mem hj)
/-- v is a slice of marks that reads as ms; it lies below block B -/
def RdMarks (w : World) (B : Nat) (v : Value) (ms : List (Int × Int)) : Prop :=
  ∃ ao cap, v = .slice ao ms.length cap ∧ ms.length ≤ cap ∧ cap ≤ maxLen ∧ I64s ms ∧
    ∀ j, j < ms.length → ∃ b off, ao = some ⟨b, off, none⟩ ∧ b < B ∧ w.cell? ⟨b, off + j * 2, none⟩ = some (.int .i64 (ms.getD j (0, 0)).1) ∧ w.cell? ⟨b, off + j * 2 + 1, none⟩ = some (.int .i64 (ms.getD j (0, 0)).2)
theorem RdMarks.below {w w' : World} {B : Nat} {v : Value} {ms : List (Int × Int)} (h : RdMarks w B v ms) (hb : ∀ k, k < B → w'.heap[k]? = w.heap[k]?) : RdMarks w' B v ms := by
  obtain ⟨ao, cap, hv, hl, hm, hi, hc⟩ := h
  refine ⟨ao, cap, hv, hl, hm, hi, fun j hj => ?_⟩
  obtain ⟨b, off, ha, hB, hc1, hc2⟩ := hc j hj
  exact ⟨b, off, ha, hB, by rw [← hc1]; exact World.cell?_of_block (w := w) (hb b hB), by rw [← hc2]; exact World.cell?_of_block (w := w) (hb b hB)⟩
theorem RdMarks.mono {w : World} {B B' : Nat} {v : Value} {ms : List (Int × Int)} (h : RdMarks w B v ms) (hB : B ≤ B') : RdMarks w B' v ms := by
  obtain ⟨ao, cap, hv, hl, hm, hi, hc⟩ := h
  refine ⟨ao, cap, hv, hl, hm, hi, fun j hj => ?_⟩
  obtain ⟨b, off, ha, hb, hc1, hc2⟩ := hc j hj
  exact ⟨b, off, ha, by omega, hc1, hc2⟩
/-- the cells of some marks -/
def mcells : List (Int × Int) → List Value
  | [] => []
  | m :: r => .int .i64 m.1 :: .int .i64 m.2 :: mcells r
theorem mcells_length (ms : List (Int × Int)) : (mcells ms).length = ms.length * 2 := by
  induction ms with
  | nil => rfl
  | cons m r ih => simp [mcells, ih]; omega
theorem mcells_append (xs ys : List (Int × Int)) : mcells (xs ++ ys) = mcells xs ++ mcells ys := by
  induction xs with
  | nil => rfl
  | cons m r ih => simp [mcells, ih]
theorem mcells_get (ms : List (Int × Int)) : ∀ j, j < ms.length → (mcells ms)[j * 2]? = some (.int .i64 (ms.getD j (0, 0)).1) ∧ (mcells ms)[j * 2 + 1]? = some (.int .i64 (ms.getD j (0, 0)).2) := by
  induction ms with
  | nil => intro j hj; simp at hj
  | cons m r ih =>
    intro j hj
    cases j with
    | zero => simp [mcells]
    | succ j =>
      have := ih j (by simpa using hj)
      have e1 : (j + 1) * 2 = j * 2 + 1 + 1 := by omega
      have e2 : (j + 1) * 2 + 1 = j * 2 + 1 + 1 + 1 := by omega
      rw [e1]
      simpa [mcells] using this
theorem mcells_one (ms : List (Int × Int)) : ∀ u ∈ mcells ms, u.oneCell' = true := by
  induction ms with
  | nil => intro u hu; simp [mcells] at hu
  | cons m r ih =>
    intro u hu
    simp only [mcells, List.mem_cons] at hu
    rcases hu with rfl | rfl | hu
    · rfl
    · rfl
    · exact ih u hu
theorem RdMarks.of_own {w : World} {base : Nat} {e : TypeId} {v : Value} {ms : List (Int × Int)} (h : w.ownsRow base e 2 v ms.length (mcells ms)) (hi : I64s ms) : RdMarks w w.heap.size v ms := by
  rcases h.2 with ⟨rfl, hn⟩ | ⟨g, cap, cur, rfl, hb, hg, hnc, hcm, hcs, htake⟩
  · have : ms = [] := List.eq_nil_of_length_eq_zero hn
    subst this
    exact ⟨none, 0, rfl, Nat.le_refl _, by unfold maxLen; omega, hi, fun j hj => by simp at hj⟩
  · refine ⟨_, cap, rfl, hnc, hcm, hi, fun j hj => ⟨g, 0, rfl, (Array.getElem?_eq_some_iff.1 hg).1, ?_, ?_⟩⟩
    · rw [cell_of_row w g (0 + j * 2) cur e (0, 0) hg]
      have h1 := (mcells_get ms j hj).1
      rw [← htake, List.getElem?_take] at h1
      split at h1
      · simpa using h1
      · cases h1
    · rw [cell_of_row w g (0 + j * 2 + 1) cur e (0, 0) hg]
      have h1 := (mcells_get ms j hj).2
      rw [← htake, List.getElem?_take] at h1
      split at h1
      · simpa using h1
      · cases h1
end Go.Proofs.Ytbnickgjnglblaa
/- What holds: terms in worlds, tables of terms, what follows, who matters: the mathematics, without code. -/
namespace Go.Proofs.Ytbnickgjnglblaa
open Go.RowKit

/-- a term in a world -/
def holds (w : Nat) : Tm → Bool
  | .leaf k x => if k = 0 then w.testBit x.toNat else decide (x ≤ (heads w : Int))
  | .un t => !holds w t
  | .bin k a b => if k = 3 then holds w a && holds w b else if k = 4 then holds w a || holds w b else holds w a == holds w b
/-- the term that a row of marks is -/
def tmOf (p : Int) (ms : List (Int × Int)) : Tm := (termS p ms).getD (.leaf 1 0)
theorem tmOf_post {p : Int} {t : Tm} (ht : t.ok p) : tmOf p t.post = t := by
  unfold tmOf
  rw [(termS_some (p := p)).2 ⟨ht, rfl⟩]; rfl
def holdsV (p : Int) (ms : List (Int × Int)) (x : Int) : Bool := termOk p ms && wOk p x && holds x.toNat (tmOf p ms)
/-- the table of what f says, of N worlds -/
def tabF (N : Nat) (f : Nat → Bool) : Nat := tabOf ((List.range N).filter f)
theorem tabF_bit (N : Nat) (f : Nat → Bool) (j : Nat) : (tabF N f).testBit j = (decide (j < N) && f j) := by
  unfold tabF
  rw [tabOf_bit, Bool.eq_iff_iff]
  simp
theorem tabF_lt (N : Nat) (f : Nat → Bool) : tabF N f < 2 ^ N := tabOf_lt _ N (fun i hi => by simp at hi; exact hi.1)
theorem tabF_ext {N : Nat} {f g : Nat → Bool} : tabF N f = tabF N g ↔ ∀ j, j < N → f j = g j := by
  constructor
  · intro h j hj
    have := congrArg (fun x => x.testBit j) h
    simpa [tabF_bit, hj] using this
  · intro h
    refine bit_ext (tabF_lt N f) (tabF_lt N g) (fun j hj => ?_)
    rw [tabF_bit, tabF_bit, h j hj]
theorem tabF_succ (N : Nat) (f : Nat → Bool) : tabF (N + 1) f = if f N then tabF N f ||| 1 <<< N else tabF N f := by
  unfold tabF
  rw [List.range_succ, List.filter_append]
  by_cases h : f N = true
  · rw [if_pos h, ← tabOf_snoc]; simp [h]
  · rw [if_neg h]; simp [h]
def tabV (p : Int) (ms : List (Int × Int)) : Int := if termOk p ms = true then (tabF (2 ^ p.toNat) (fun w => holds w (tmOf p ms)) : Int) else -1
def sameV (p : Int) (a b : List (Int × Int)) : Bool := termOk p a && termOk p b && decide (tabV p a = tabV p b)
def followsV (p : Int) (a b : List (Int × Int)) : Bool := termOk p a && termOk p b && decide (∀ w, w < 2 ^ p.toNat → holds w (tmOf p a) = true → holds w (tmOf p b) = true)
def alwaysV (p : Int) (ms : List (Int × Int)) : Bool := termOk p ms && decide (∀ w, w < 2 ^ p.toNat → holds w (tmOf p ms) = true)
def matters (p : Int) (t : Tm) (k : Nat) : Bool := decide (∃ w, w < 2 ^ p.toNat ∧ holds w t ≠ holds (w ^^^ 1 <<< k) t)
def matterN (p : Int) (t : Tm) : Nat := tabF p.toNat (matters p t)
def matterV (p : Int) (ms : List (Int × Int)) : Int := if termOk p ms = true then (matterN p (tmOf p ms) : Int) else -1
theorem tabV_no {p : Int} {ms : List (Int × Int)} (h : termOk p ms = false) : tabV p ms = -1 := by simp [tabV, h]
theorem tabV_yes {p : Int} {ms : List (Int × Int)} (h : termOk p ms = true) : tabV p ms = (tabF (2 ^ p.toNat) (fun w => holds w (tmOf p ms)) : Int) := by simp [tabV, h]
theorem tabV_eq {p : Int} {a b : List (Int × Int)} (ha : termOk p a = true) (hb : termOk p b = true) : tabV p a = tabV p b ↔ ∀ w, w < 2 ^ p.toNat → holds w (tmOf p a) = holds w (tmOf p b) := by
  rw [tabV_yes ha, tabV_yes hb, ← tabF_ext]
  omega
/-! ### rows put together -/
theorem termOk_un {p : Int} {a : List (Int × Int)} (ha : termOk p a = true) : termOk p (a ++ [(2, 0)]) = decide (a.length ≤ 14) := by
  obtain ⟨hp, hl, t, ht, rfl⟩ := termOk_iff.1 ha
  have he : t.post ++ [((2 : Int), (0 : Int))] = (Tm.un t).post := rfl
  by_cases h : t.post.length ≤ 14
  · rw [he, decide_eq_true h]
    exact termOk_iff.2 ⟨hp, by simp [Tm.post]; omega, .un t, by simpa only [Tm.ok] using ht, rfl⟩
  · rw [decide_eq_false h]
    exact termOk_no_len (by simp; omega)
theorem tmOf_un {p : Int} {a : List (Int × Int)} (ha : termOk p a = true) : tmOf p (a ++ [(2, 0)]) = .un (tmOf p a) := by
  obtain ⟨hp, hl, t, ht, rfl⟩ := termOk_iff.1 ha
  have he : t.post ++ [((2 : Int), (0 : Int))] = (Tm.un t).post := rfl
  rw [tmOf_post ht, he, tmOf_post (by simpa only [Tm.ok] using ht)]
theorem termOk_bin {p k : Int} {a b : List (Int × Int)} (hk : 3 ≤ k ∧ k ≤ 5) (ha : termOk p a = true) (hb : termOk p b = true) : termOk p (a ++ b ++ [(k, 0)]) = decide (a.length + b.length ≤ 14) := by
  obtain ⟨hp, hl, t, ht, rfl⟩ := termOk_iff.1 ha
  obtain ⟨_, _, u, hu, rfl⟩ := termOk_iff.1 hb
  have he : t.post ++ u.post ++ [((k : Int), (0 : Int))] = (Tm.bin k t u).post := rfl
  by_cases h : t.post.length + u.post.length ≤ 14
  · rw [he, decide_eq_true h]
    exact termOk_iff.2 ⟨hp, by simp [Tm.post]; omega, .bin k t u, by simp only [Tm.ok]; exact ⟨hk.1, hk.2, ht, hu⟩, rfl⟩
  · rw [decide_eq_false h]
    exact termOk_no_len (by simp; omega)
theorem tmOf_bin {p k : Int} {a b : List (Int × Int)} (hk : 3 ≤ k ∧ k ≤ 5) (ha : termOk p a = true) (hb : termOk p b = true) : tmOf p (a ++ b ++ [(k, 0)]) = .bin k (tmOf p a) (tmOf p b) := by
  obtain ⟨hp, hl, t, ht, rfl⟩ := termOk_iff.1 ha
  obtain ⟨_, _, u, hu, rfl⟩ := termOk_iff.1 hb
  have he : t.post ++ u.post ++ [((k : Int), (0 : Int))] = (Tm.bin k t u).post := rfl
  rw [tmOf_post ht, tmOf_post hu, he, tmOf_post (by simp only [Tm.ok]; exact ⟨hk.1, hk.2, ht, hu⟩)]
theorem termOk_count {p x : Int} (hp : 1 ≤ p ∧ p ≤ 4) (hx : 0 ≤ x ∧ x ≤ p + 1) : termOk p [(1, x)] = true :=
  termOk_iff.2 ⟨hp, by simp, .leaf 1 x, by simp only [Tm.ok]; right; refine ⟨trivial, hx.1, ?_⟩; omega, rfl⟩
theorem tmOf_count {p x : Int} (_hp : 1 ≤ p ∧ p ≤ 4) (hx : 0 ≤ x ∧ x ≤ p + 1) : tmOf p [(1, x)] = .leaf 1 x :=
  tmOf_post (t := .leaf 1 x) (by simp only [Tm.ok]; right; refine ⟨trivial, hx.1, ?_⟩; omega)
/-! ### the laws of what holds -/
theorem holds_un (w : Nat) (t : Tm) : holds w (.un t) = !holds w t := by rw [holds]
theorem holds_and (w : Nat) (a b : Tm) : holds w (.bin 3 a b) = (holds w a && holds w b) := by rw [holds, if_pos rfl]
theorem holds_or (w : Nat) (a b : Tm) : holds w (.bin 4 a b) = (holds w a || holds w b) := by rw [holds, if_neg (by decide), if_pos rfl]
theorem holds_same (w : Nat) (a b : Tm) : holds w (.bin 5 a b) = (holds w a == holds w b) := by rw [holds, if_neg (by decide), if_neg (by decide)]
theorem holds_none (w : Nat) : holds w (.leaf 1 0) = true := by rw [holds, if_neg (by decide)]; simp
theorem same_follows {p : Int} {a b : List (Int × Int)} (ha : termOk p a = true) (hb : termOk p b = true) : sameV p a b = (followsV p a b && followsV p b a) := by
  unfold sameV followsV
  rw [ha, hb]
  simp only [Bool.true_and]
  rw [← Bool.decide_and, decide_eq_decide, tabV_eq ha hb]
  constructor
  · intro h
    exact ⟨fun w hw h1 => by rw [← h w hw]; exact h1, fun w hw h1 => by rw [h w hw]; exact h1⟩
  · rintro ⟨h1, h2⟩ w hw
    rw [Bool.eq_iff_iff]
    exact ⟨h1 w hw, h2 w hw⟩
theorem same_always {p : Int} {a b : List (Int × Int)} (ha : termOk p a = true) (hb : termOk p b = true) (h : termOk p (a ++ b ++ [(5, 0)]) = true) : alwaysV p (a ++ b ++ [(5, 0)]) = sameV p a b := by
  unfold alwaysV sameV
  rw [ha, hb, h, tmOf_bin (by omega) ha hb]
  simp only [Bool.true_and]
  rw [decide_eq_decide, tabV_eq ha hb]
  simp only [holds_same, beq_iff_eq]
theorem same_refl {p : Int} {a : List (Int × Int)} (ha : termOk p a = true) : sameV p a a = true := by simp [sameV, ha]
theorem follows_or {p : Int} {a b : List (Int × Int)} (ha : termOk p a = true) (hb : termOk p b = true) (h : termOk p (a ++ b ++ [(4, 0)]) = true) : sameV p (a ++ b ++ [(4, 0)]) b = followsV p a b := by
  unfold followsV sameV
  rw [ha, hb, h]
  simp only [Bool.true_and]
  rw [decide_eq_decide, tabV_eq h hb, tmOf_bin (by omega) ha hb]
  simp only [holds_or]
  refine forall_congr' fun w => forall_congr' fun _ => ?_
  cases holds w (tmOf p a) <;> cases holds w (tmOf p b) <;> simp
theorem follows_refl {p : Int} {a : List (Int × Int)} (ha : termOk p a = true) : followsV p a a = true := by simp [followsV, ha]
theorem p_of {p : Int} {a : List (Int × Int)} (ha : termOk p a = true) : 1 ≤ p ∧ p ≤ 4 := (termOk_iff.1 ha).1
theorem follows_none {p : Int} {a : List (Int × Int)} (ha : termOk p a = true) : followsV p a [(1, 0)] = true := by
  have hp := p_of ha
  unfold followsV
  rw [ha, termOk_count hp (by omega), tmOf_count hp (by omega)]
  simp [holds_none]
theorem always_none {p : Int} (hp : 1 ≤ p ∧ p ≤ 4) : alwaysV p [(1, 0)] = true := by
  unfold alwaysV
  rw [termOk_count hp (by omega), tmOf_count hp (by omega)]
  simp [holds_none]
theorem not_holds {p : Int} {a : List (Int × Int)} (ha : termOk p a = true) (h : termOk p (a ++ [(2, 0)]) = true) {x : Int} (hx : wOk p x = true) : holdsV p (a ++ [(2, 0)]) x = !holdsV p a x := by
  unfold holdsV
  rw [ha, h, hx, tmOf_un ha, holds_un]
  simp
/-- neither is both not -/
theorem not_either {p : Int} {a b : List (Int × Int)} (ha : termOk p a = true) (hb : termOk p b = true) (h1 : termOk p (a ++ b ++ [(4, 0)] ++ [(2, 0)]) = true) (h2 : termOk p (a ++ [(2, 0)] ++ (b ++ [(2, 0)]) ++ [(3, 0)]) = true) : sameV p (a ++ b ++ [(4, 0)] ++ [(2, 0)]) (a ++ [(2, 0)] ++ (b ++ [(2, 0)]) ++ [(3, 0)]) = true := by
  have hl1 := (termOk_iff.1 h1).2.1
  have hl2 := (termOk_iff.1 h2).2.1
  simp only [List.length_append, List.length_cons, List.length_nil] at hl1 hl2
  have h3 : termOk p (a ++ b ++ [(4, 0)]) = true := by rw [termOk_bin (by omega) ha hb]; simp; omega
  have h4 : termOk p (a ++ [(2, 0)]) = true := by rw [termOk_un ha]; simp; omega
  have h5 : termOk p (b ++ [(2, 0)]) = true := by rw [termOk_un hb]; simp; omega
  unfold sameV
  rw [h1, h2]
  simp only [Bool.true_and]
  rw [decide_eq_true_eq, tabV_eq h1 h2, tmOf_un h3, tmOf_bin (by omega) ha hb, tmOf_bin (by omega) h4 h5, tmOf_un ha, tmOf_un hb]
  intro w _
  rw [holds_un, holds_or, holds_and, holds_un, holds_un]
  simp
end Go.Proofs.Ytbnickgjnglblaa
/- Asking for a teller: the mathematics, without code. -/
namespace Go.Proofs.Ytbnickgjnglblaa
open Go.RowKit
/-! ### the first number for which something holds -/
def firstN (f : Nat → Bool) : Nat → Int
  | 0 => -1
  | n + 1 => if 0 ≤ firstN f n then firstN f n else if f n then (n : Int) else -1
theorem firstN_spec (f : Nat → Bool) : ∀ n, (firstN f n = -1 ∧ ∀ d, d < n → f d = false) ∨ ∃ d : Nat, d < n ∧ firstN f n = (d : Int) ∧ f d = true ∧ ∀ e, e < d → f e = false
  | 0 => .inl ⟨rfl, fun d hd => absurd hd (Nat.not_lt_zero _)⟩
  | n + 1 => by
    rcases firstN_spec f n with ⟨h1, h2⟩ | ⟨d, hd, h1, h2, h3⟩
    · cases hf : f n with
      | true =>
        refine .inr ⟨n, by omega, ?_, hf, h2⟩
        rw [firstN, h1, if_neg (by decide), if_pos hf]
      | false =>
        refine .inl ⟨?_, fun d hd => ?_⟩
        · rw [firstN, h1, if_neg (by decide), if_neg (by rw [hf]; decide)]
        · by_cases e : d = n
          · rw [e]; exact hf
          · exact h2 d (by omega)
    · refine .inr ⟨d, by omega, ?_, h2, h3⟩
      rw [firstN, h1, if_pos (by omega)]
theorem firstN_none {f : Nat → Bool} {n : Nat} (h : ∀ d, d < n → f d = false) : firstN f n = -1 := by
  rcases firstN_spec f n with ⟨h1, _⟩ | ⟨d, hd, _, h2, _⟩
  · exact h1
  · rw [h d hd] at h2; cases h2
theorem firstN_at {f : Nat → Bool} {n d : Nat} (hd : d < n) (h1 : f d = true) (h2 : ∀ e, e < d → f e = false) : firstN f n = (d : Int) := by
  rcases firstN_spec f n with ⟨_, h⟩ | ⟨e, he, h3, h4, h5⟩
  · rw [h d hd] at h1; cases h1
  · by_cases hl : e < d
    · rw [h2 e hl] at h4; cases h4
    · by_cases hg : d < e
      · rw [h5 d hg] at h1; cases h1
      · rw [h3, show e = d by omega]
theorem firstN_le {f : Nat → Bool} {n d : Nat} (hd : d < n) (h1 : f d = true) : 0 ≤ firstN f n ∧ firstN f n ≤ (d : Int) := by
  rcases firstN_spec f n with ⟨_, h⟩ | ⟨e, he, h3, h4, h5⟩
  · rw [h d hd] at h1; cases h1
  · by_cases hg : d < e
    · rw [h5 d hg] at h1; cases h1
    · rw [h3]; omega
theorem firstN_ge {f : Nat → Bool} {n : Nat} (h : 0 ≤ firstN f n) : ∃ d : Nat, d < n ∧ firstN f n = (d : Int) ∧ f d = true ∧ ∀ e, e < d → f e = false := by
  rcases firstN_spec f n with ⟨h1, _⟩ | h1
  · omega
  · exact h1
theorem firstN_low (f : Nat → Bool) (n : Nat) : -1 ≤ firstN f n := by
  rcases firstN_spec f n with ⟨h1, _⟩ | ⟨d, _, h1, _⟩ <;> omega
/-! ### the tables -/
def majN (p : Nat) : Nat := tabF (2 ^ p) fun w => decide (p < 2 * heads w)
def majV (p : Int) : Int := if 1 ≤ p ∧ p ≤ 4 then (majN p.toNat : Int) else -1
/-- the person k tells the truth in all worlds -/
def telB (p T k : Nat) : Bool := (List.range (2 ^ p)).all fun w => !T.testBit w || w.testBit k
def telN (p T : Nat) : Int := firstN (telB p T) p
def ktV (p t : Int) : Int := if tOk p t && decide (t ≠ 0) then telN p.toNat t.toNat else -1
def askN (p T i j : Nat) (s : Bool) : Nat := tabF (2 ^ p) fun w => T.testBit w && ((w.testBit i == w.testBit j) == s)
def askV (p t i j : Int) (s : Bool) : Int := if tOk p t && (decide (0 ≤ i ∧ i < p) && decide (0 ≤ j ∧ j < p)) then (askN p.toNat t.toNat i.toNat j.toNat s : Int) else -1
/-- so many questions are enough -/
def solB (p : Nat) : Nat → Nat → Bool
  | 0, T => decide (T = 0) || (List.range p).any (telB p T)
  | d + 1, T => (decide (T = 0) || (List.range p).any (telB p T)) || (List.range p).any fun i => (List.range p).any fun j => decide (i < j) && (solB p d (askN p T i j true) && solB p d (askN p T i j false))
def lv (p m T : Nat) : Int := firstN (fun d => solB p d T) (m + 1)
def leastV (p t : Int) : Int := if tOk p t then lv p.toNat p.toNat t.toNat else -1
theorem telB_iff {p T k : Nat} : telB p T k = true ↔ ∀ w, w < 2 ^ p → T.testBit w = true → w.testBit k = true := by
  unfold telB
  rw [List.all_eq_true]
  constructor
  · intro h w hw ht
    have := h w (List.mem_range.2 hw)
    rw [ht] at this
    simpa using this
  · intro h w hw
    cases ht : T.testBit w with
    | false => rfl
    | true => rw [h w (List.mem_range.1 hw) ht]; rfl
/-- solved with no question -/
def done0 (p T : Nat) : Bool := decide (T = 0) || (List.range p).any (telB p T)
theorem done0_iff {p T : Nat} : done0 p T = true ↔ T = 0 ∨ ∃ k, k < p ∧ telB p T k = true := by
  unfold done0
  rw [Bool.or_eq_true, decide_eq_true_eq, List.any_eq_true]
  constructor
  · rintro (h | ⟨k, hk, h⟩)
    · exact .inl h
    · exact .inr ⟨k, List.mem_range.1 hk, h⟩
  · rintro (h | ⟨k, hk, h⟩)
    · exact .inl h
    · exact .inr ⟨k, List.mem_range.2 hk, h⟩
theorem done0_tel {p T : Nat} : done0 p T = true ↔ T = 0 ∨ 0 ≤ telN p T := by
  rw [done0_iff]
  constructor
  · rintro (h | ⟨k, hk, h⟩)
    · exact .inl h
    · exact .inr (firstN_le hk h).1
  · rintro (h | h)
    · exact .inl h
    · obtain ⟨d, hd, _, h1, _⟩ := firstN_ge h
      exact .inr ⟨d, hd, h1⟩
theorem solB_zero (p T : Nat) : solB p 0 T = done0 p T := rfl
theorem solB_succ {p d T : Nat} : solB p (d + 1) T = true ↔ done0 p T = true ∨ ∃ i j, i < j ∧ j < p ∧ solB p d (askN p T i j true) = true ∧ solB p d (askN p T i j false) = true := by
  rw [solB, Bool.or_eq_true]
  refine or_congr Iff.rfl ?_
  rw [List.any_eq_true]
  constructor
  · rintro ⟨i, hi, h⟩
    rw [List.any_eq_true] at h
    obtain ⟨j, hj, h⟩ := h
    rw [Bool.and_eq_true, Bool.and_eq_true, decide_eq_true_eq] at h
    exact ⟨i, j, h.1, List.mem_range.1 hj, h.2.1, h.2.2⟩
  · rintro ⟨i, j, h1, h2, h3, h4⟩
    refine ⟨i, List.mem_range.2 (by omega), ?_⟩
    rw [List.any_eq_true]
    refine ⟨j, List.mem_range.2 h2, ?_⟩
    rw [h3, h4, decide_eq_true h1]; rfl
theorem sol_step {p T : Nat} : ∀ d, solB p d T = true → solB p (d + 1) T = true := by
  intro d
  induction d generalizing T with
  | zero => intro h; exact solB_succ.2 (.inl h)
  | succ d ih =>
    intro h
    rcases solB_succ.1 h with h | ⟨i, j, h1, h2, h3, h4⟩
    · exact solB_succ.2 (.inl h)
    · exact solB_succ.2 (.inr ⟨i, j, h1, h2, ih h3, ih h4⟩)
theorem sol_mono {p T d e : Nat} (h : d ≤ e) (hs : solB p d T = true) : solB p e T = true := by
  induction e with
  | zero => rw [show d = 0 by omega] at hs; exact hs
  | succ e ih =>
    by_cases hd : d = e + 1
    · rw [← hd]; exact hs
    · exact sol_step e (ih (by omega))
theorem sol_done {p T : Nat} (h : done0 p T = true) (d : Nat) : solB p d T = true := sol_mono (Nat.zero_le d) h
/-- fewer worlds -/
def Sub (A B : Nat) : Prop := ∀ w, A.testBit w = true → B.testBit w = true
theorem ask_bit {p T i j w : Nat} {s : Bool} : (askN p T i j s).testBit w = true ↔ w < 2 ^ p ∧ T.testBit w = true ∧ (w.testBit i == w.testBit j) = s := by
  unfold askN
  rw [tabF_bit, Bool.and_eq_true, decide_eq_true_eq, Bool.and_eq_true, beq_iff_eq]
theorem ask_lt (p T i j : Nat) (s : Bool) : askN p T i j s < 2 ^ 2 ^ p := tabF_lt _ _
theorem ask_sub (p T i j : Nat) (s : Bool) : Sub (askN p T i j s) T := fun _ h => (ask_bit.1 h).2.1
theorem ask_sub2 {p A B i j : Nat} {s : Bool} (h : Sub A B) : Sub (askN p A i j s) (askN p B i j s) := fun w hw => by
  obtain ⟨h1, h2, h3⟩ := ask_bit.1 hw
  exact ask_bit.2 ⟨h1, h w h2, h3⟩
theorem zero_of_none {A : Nat} (h : ∀ w, A.testBit w = false) : A = 0 := Nat.eq_of_testBit_eq fun w => by rw [h w]; simp
theorem done_sub {p A B : Nat} (h : Sub A B) (hB : done0 p B = true) : done0 p A = true := by
  rw [done0_iff] at hB ⊢
  rcases hB with rfl | ⟨k, hk, ht⟩
  · left
    refine zero_of_none fun w => ?_
    cases hw : A.testBit w with
    | false => rfl
    | true => have := h w hw; simp at this
  · right
    refine ⟨k, hk, telB_iff.2 fun w hw hb => telB_iff.1 ht w hw (h w hb)⟩
/-- who knows more asks no more -/
theorem sol_sub {p A B : Nat} (d : Nat) (h : Sub A B) (hB : solB p d B = true) : solB p d A = true := by
  induction d generalizing A B with
  | zero => exact done_sub h hB
  | succ d ih =>
    rcases solB_succ.1 hB with hB | ⟨i, j, h1, h2, h3, h4⟩
    · exact solB_succ.2 (.inl (done_sub h hB))
    · exact solB_succ.2 (.inr ⟨i, j, h1, h2, ih (ask_sub2 h) h3, ih (ask_sub2 h) h4⟩)
/-! ### what can't be solved -/
def Bad (p T : Nat) : Prop := T.testBit 0 = true ∨ ∃ w, w < 2 ^ p ∧ T.testBit w = true ∧ T.testBit (2 ^ p - 1 - w) = true
theorem opp_bit9 {p w k : Nat} (hw : w < 2 ^ p) (hk : k < p) : (2 ^ p - 1 - w).testBit k = !w.testBit k := by
  rw [show 2 ^ p - 1 - w = 2 ^ p - (w + 1) by omega, Nat.testBit_two_pow_sub_succ hw, decide_eq_true hk, Bool.true_and]
theorem two_pos (p : Nat) : 0 < 2 ^ p := Nat.pow_pos (by decide)
theorem bad_done {p T : Nat} (h : Bad p T) : done0 p T = false := by
  cases hd : done0 p T with
  | false => rfl
  | true =>
    rcases done0_iff.1 hd with h0 | ⟨k, hk, ht⟩
    · subst h0
      rcases h with h | ⟨w, _, h, _⟩ <;> simp at h
    · have ht := telB_iff.1 ht
      rcases h with h | ⟨w, hw, h1, h2⟩
      · have := ht 0 (two_pos p) h; simp at this
      · have a := ht w hw h1
        have b := ht _ (by have := two_pos p; omega) h2
        rw [opp_bit9 hw hk, a] at b; cases b
theorem bad_ask {p T i j : Nat} (hi : i < p) (hj : j < p) (h : Bad p T) : Bad p (askN p T i j true) ∨ Bad p (askN p T i j false) := by
  rcases h with h | ⟨w, hw, h1, h2⟩
  · left; left; exact ask_bit.2 ⟨two_pos p, h, by simp⟩
  · have hopp : ((2 ^ p - 1 - w).testBit i == (2 ^ p - 1 - w).testBit j) = (w.testBit i == w.testBit j) := by
      rw [opp_bit9 hw hi, opp_bit9 hw hj]
      cases w.testBit i <;> cases w.testBit j <;> rfl
    have hlt : 2 ^ p - 1 - w < 2 ^ p := by have := two_pos p; omega
    cases hs : (w.testBit i == w.testBit j) with
    | true => left; right; exact ⟨w, hw, ask_bit.2 ⟨hw, h1, hs⟩, ask_bit.2 ⟨hlt, h2, by rw [hopp, hs]⟩⟩
    | false => right; right; exact ⟨w, hw, ask_bit.2 ⟨hw, h1, hs⟩, ask_bit.2 ⟨hlt, h2, by rw [hopp, hs]⟩⟩
theorem bad_sol {p T : Nat} (d : Nat) (h : Bad p T) : solB p d T = false := by
  induction d generalizing T with
  | zero => exact bad_done h
  | succ d ih =>
    cases hs : solB p (d + 1) T with
    | false => rfl
    | true =>
      rcases solB_succ.1 hs with h0 | ⟨i, j, h1, h2, h3, h4⟩
      · rw [bad_done h] at h0; cases h0
      · rcases bad_ask (i := i) (j := j) (by omega) h2 h with hb | hb
        · rw [ih hb] at h3; cases h3
        · rw [ih hb] at h4; cases h4
theorem bad_sub {p A B : Nat} (h : Sub A B) (hb : Bad p A) : Bad p B := by
  rcases hb with hb | ⟨w, hw, h1, h2⟩
  · exact .inl (h 0 hb)
  · exact .inr ⟨w, hw, h w h1, h _ h2⟩
/-- all worlds that are left agree, up to the person q, on who is as the first one -/
def Agree (p T q : Nat) : Prop := ∀ w w', w < 2 ^ p → w' < 2 ^ p → T.testBit w = true → T.testBit w' = true → ∀ j, j ≤ q → (w.testBit 0 == w.testBit j) = (w'.testBit 0 == w'.testBit j)
theorem agree_done {p T : Nat} (hp : 0 < p) (hT : T < 2 ^ 2 ^ p) (hn : ¬ Bad p T) (h : Agree p T (p - 1)) : done0 p T = true := by
  rw [done0_iff]
  by_cases h0 : ∃ w, w < 2 ^ p ∧ T.testBit w = true
  · right
    obtain ⟨w, hw, hb⟩ := h0
    have hw0 : w ≠ 0 := fun e => hn (.inl (by rw [← e]; exact hb))
    obtain ⟨k, hk, hwk⟩ : ∃ k, k < p ∧ w.testBit k = true := by
      refine Classical.byContradiction fun hne => hw0 (zero_of_none fun k => ?_)
      cases hwk : w.testBit k with
      | false => rfl
      | true =>
        exfalso
        by_cases hk : k < p
        · exact hne ⟨k, hk, hwk⟩
        · rw [testBit_false_of_lt hw (by omega)] at hwk; cases hwk
    refine ⟨k, hk, telB_iff.2 fun w' hw' hb' => ?_⟩
    have hall := h w w' hw hw' hb hb'
    by_cases he : w.testBit 0 = w'.testBit 0
    · have hall := hall k (by omega)
      rw [he] at hall
      cases h1 : w'.testBit 0 <;> cases h2 : w'.testBit k <;> rw [h1, h2, hwk] at hall <;> first | rfl | (simp at hall)
    · exfalso
      refine hn (.inr ⟨w, hw, hb, ?_⟩)
      have : w' = 2 ^ p - 1 - w := by
        refine bit_ext hw' (n := p) (by have := two_pos p; omega) fun j hj => ?_
        rw [opp_bit9 hw hj]
        have := hall j (by omega)
        cases h1 : w.testBit 0 <;> cases h2 : w'.testBit 0 <;> cases h3 : w.testBit j <;> cases h4 : w'.testBit j <;> simp [h1, h2, h3, h4] at this he ⊢
      rw [← this]; exact hb'
  · left
    refine zero_of_none fun w => ?_
    cases hw : T.testBit w with
    | false => rfl
    | true =>
      exfalso
      by_cases hl : w < 2 ^ p
      · exact h0 ⟨w, hl, hw⟩
      · rw [testBit_false_of_lt hT (by omega)] at hw; cases hw
theorem sol_chain {p : Nat} (hp : 0 < p) : ∀ (r T : Nat), r ≤ p - 1 → T < 2 ^ 2 ^ p → ¬ Bad p T → Agree p T (p - 1 - r) → solB p r T = true
  | 0, T, _, hT, hn, ha => agree_done hp hT hn ha
  | r + 1, T, hr, hT, hn, ha => by
    have hside : ∀ s, solB p r (askN p T 0 (p - 1 - r) s) = true := fun s => by
      refine sol_chain hp r _ (by omega) (ask_lt _ _ _ _ _) (fun hb => hn (bad_sub (ask_sub p T 0 _ s) hb)) ?_
      intro w w' hw hw' hb hb' j hj
      obtain ⟨_, h1, h2⟩ := ask_bit.1 hb
      obtain ⟨_, h3, h4⟩ := ask_bit.1 hb'
      by_cases he : j = p - 1 - r
      · rw [he, h2, h4]
      · exact ha w w' hw hw' h1 h3 j (by omega)
    exact solB_succ.2 (.inr ⟨0, p - 1 - r, by omega, by omega, hside true, hside false⟩)
/-- what is not bad is solved with fewer questions than people -/
theorem good_sol {p T : Nat} (hp : 0 < p) (hT : T < 2 ^ 2 ^ p) (hn : ¬ Bad p T) : solB p (p - 1) T = true := by
  refine sol_chain hp (p - 1) T (Nat.le_refl _) hT hn fun w w' _ _ _ _ j hj => ?_
  rw [show j = 0 by omega]; simp
/-! ### the least number -/
theorem lv_done {p m T : Nat} (h : done0 p T = true) : lv p m T = 0 := by
  have := firstN_at (f := fun d => solB p d T) (n := m + 1) (d := 0) (by omega) h (fun e he => absurd he (Nat.not_lt_zero _))
  exact this
theorem lv_zero {p T : Nat} (h : done0 p T = false) : lv p 0 T = -1 := firstN_none fun d hd => by rw [show d = 0 by omega]; exact h
theorem lv_low (p m T : Nat) : -1 ≤ lv p m T := firstN_low _ _
theorem lv_high (p m T : Nat) : lv p m T ≤ m := by
  rcases firstN_spec (fun d => solB p d T) (m + 1) with ⟨h, _⟩ | ⟨d, hd, h, _⟩
  · unfold lv; omega
  · unfold lv; omega
/-- a question that parts the worlds, both parts of which can be solved -/
def Good (p m T i j : Nat) : Prop := askN p T i j true ≠ T ∧ askN p T i j false ≠ T ∧ 0 ≤ lv p m (askN p T i j true) ∧ 0 ≤ lv p m (askN p T i j false)
def costQ (p m T i j : Nat) : Int := max (lv p m (askN p T i j true)) (lv p m (askN p T i j false)) + 1
theorem lv_step_le {p m T i j : Nat} (hij : i < j) (hj : j < p) (h : Good p m T i j) : 0 ≤ lv p (m + 1) T ∧ lv p (m + 1) T ≤ costQ p m T i j := by
  obtain ⟨_, _, h1, h2⟩ := h
  unfold costQ
  obtain ⟨a, ha, ea, sa, _⟩ := firstN_ge h1
  obtain ⟨b, hb, eb, sb, _⟩ := firstN_ge h2
  have e1 : lv p m (askN p T i j true) = (a : Int) := ea
  have e2 : lv p m (askN p T i j false) = (b : Int) := eb
  rw [e1, e2]
  have hs : solB p (max a b + 1) T = true := solB_succ.2 (.inr ⟨i, j, hij, hj, sol_mono (Nat.le_max_left a b) sa, sol_mono (Nat.le_max_right a b) sb⟩)
  have := firstN_le (f := fun d => solB p d T) (n := m + 1 + 1) (d := max a b + 1) (by omega) hs
  refine ⟨this.1, ?_⟩
  have h3 := this.2
  show firstN (fun d => solB p d T) (m + 1 + 1) ≤ _
  omega
theorem lv_step_ge {p m T : Nat} (hd : done0 p T = false) (h : 0 ≤ lv p (m + 1) T) : ∃ i j, i < j ∧ j < p ∧ Good p m T i j ∧ costQ p m T i j ≤ lv p (m + 1) T := by
  obtain ⟨d, hdm, e, hs, hmin⟩ := firstN_ge h
  have e : lv p (m + 1) T = (d : Int) := e
  cases d with
  | zero => rw [solB_zero, hd] at hs; cases hs
  | succ d =>
    rcases solB_succ.1 hs with h0 | ⟨i, j, hij, hj, h1, h2⟩
    · rw [hd] at h0; cases h0
    · have hn1 : askN p T i j true ≠ T := fun he => by
        rw [he] at h1
        have := hmin d (by omega)
        rw [h1] at this; cases this
      have hn2 : askN p T i j false ≠ T := fun he => by
        rw [he] at h2
        have := hmin d (by omega)
        rw [h2] at this; cases this
      have a := firstN_le (f := fun e => solB p e (askN p T i j true)) (n := m + 1) (d := d) (by omega) h1
      have b := firstN_le (f := fun e => solB p e (askN p T i j false)) (n := m + 1) (d := d) (by omega) h2
      refine ⟨i, j, hij, hj, ⟨hn1, hn2, a.1, b.1⟩, ?_⟩
      have a2 : lv p m (askN p T i j true) ≤ d := a.2
      have b2 : lv p m (askN p T i j false) ≤ d := b.2
      unfold costQ
      rw [e]
      omega
/-- the best of the questions that have been asked: D tells which ones -/
def Best (p m T : Nat) (D : Nat → Nat → Prop) (b : Int) : Prop :=
  (b = -1 ∧ ∀ i j, i < j → j < p → D i j → ¬ Good p m T i j) ∨ (0 ≤ b ∧ (∃ i j, i < j ∧ j < p ∧ Good p m T i j ∧ costQ p m T i j = b) ∧ ∀ i j, i < j → j < p → D i j → Good p m T i j → b ≤ costQ p m T i j)
theorem Best.none (p m T : Nat) {D : Nat → Nat → Prop} (h : ∀ i j, i < j → j < p → ¬ D i j) : Best p m T D (-1) := .inl ⟨rfl, fun i j h1 h2 h3 => absurd h3 (h i j h1 h2)⟩
theorem Best.all {p m T : Nat} {D : Nat → Nat → Prop} {b : Int} (hd : done0 p T = false) (h : Best p m T D b) (hD : ∀ i j, i < j → j < p → D i j) : lv p (m + 1) T = b := by
  rcases h with ⟨rfl, h⟩ | ⟨hb, ⟨i, j, h1, h2, h3, h4⟩, h⟩
  · have hl := lv_low p (m + 1) T
    by_cases h0 : 0 ≤ lv p (m + 1) T
    · obtain ⟨i, j, h1, h2, h3, _⟩ := lv_step_ge hd h0
      exact absurd h3 (h i j h1 h2 (hD i j h1 h2))
    · omega
  · have hle := lv_step_le h1 h2 h3
    obtain ⟨i', j', g1, g2, g3, g4⟩ := lv_step_ge hd hle.1
    have := h i' j' g1 g2 (hD i' j' g1 g2) g3
    omega
theorem Best.weaken {p m T : Nat} {D D' : Nat → Nat → Prop} {b : Int} (h : Best p m T D b) (hD : ∀ i j, i < j → j < p → D' i j → D i j) : Best p m T D' b := by
  rcases h with ⟨rfl, h⟩ | ⟨hb, hex, h⟩
  · exact .inl ⟨rfl, fun i j h1 h2 h3 => h i j h1 h2 (hD i j h1 h2 h3)⟩
  · exact .inr ⟨hb, hex, fun i j h1 h2 h3 => h i j h1 h2 (hD i j h1 h2 h3)⟩
theorem Best.skip {p m T i j : Nat} {D D' : Nat → Nat → Prop} {b : Int} (h : Best p m T D b) (hn : ¬ Good p m T i j) (hD : ∀ i' j', i' < j' → j' < p → D' i' j' → D i' j' ∨ (i' = i ∧ j' = j)) : Best p m T D' b := by
  rcases h with ⟨rfl, h⟩ | ⟨hb, hex, h⟩
  · refine .inl ⟨rfl, fun i' j' h1 h2 h3 => ?_⟩
    rcases hD i' j' h1 h2 h3 with h4 | ⟨rfl, rfl⟩
    · exact h i' j' h1 h2 h4
    · exact hn
  · refine .inr ⟨hb, hex, fun i' j' h1 h2 h3 h5 => ?_⟩
    rcases hD i' j' h1 h2 h3 with h4 | ⟨rfl, rfl⟩
    · exact h i' j' h1 h2 h4 h5
    · exact absurd h5 hn
theorem Best.take {p m T i j : Nat} {D D' : Nat → Nat → Prop} {b : Int} (h : Best p m T D b) (hij : i < j) (hj : j < p) (hg : Good p m T i j) (hD : ∀ i' j', i' < j' → j' < p → D' i' j' → D i' j' ∨ (i' = i ∧ j' = j)) (hb : b < 0 ∨ costQ p m T i j < b) : Best p m T D' (costQ p m T i j) := by
  have h0 : 0 ≤ costQ p m T i j := by unfold costQ; have := hg.2.2.1; omega
  refine .inr ⟨h0, ⟨i, j, hij, hj, hg, rfl⟩, fun i' j' h1 h2 h3 h5 => ?_⟩
  rcases hD i' j' h1 h2 h3 with h4 | ⟨rfl, rfl⟩
  · rcases h with ⟨rfl, h⟩ | ⟨_, _, h⟩
    · exact absurd h5 (h i' j' h1 h2 h4)
    · have := h i' j' h1 h2 h4 h5
      omega
  · exact Int.le_refl _
theorem Best.leave {p m T i j : Nat} {D D' : Nat → Nat → Prop} {b : Int} (h : Best p m T D b) (hD : ∀ i' j', i' < j' → j' < p → D' i' j' → D i' j' ∨ (i' = i ∧ j' = j)) (hb : 0 ≤ b) (hle : b ≤ costQ p m T i j) : Best p m T D' b := by
  rcases h with ⟨rfl, h⟩ | ⟨hb, hex, h⟩
  · omega
  · refine .inr ⟨hb, hex, fun i' j' h1 h2 h3 h5 => ?_⟩
    rcases hD i' j' h1 h2 h3 with h4 | ⟨rfl, rfl⟩
    · exact h i' j' h1 h2 h4 h5
    · exact hle
theorem Best.low {p m T : Nat} {D : Nat → Nat → Prop} {b : Int} (h : Best p m T D b) (hm : m ≤ 4) : -1 ≤ b ∧ b ≤ 6 := by
  rcases h with ⟨rfl, _⟩ | ⟨hb, ⟨i, j, h1, h2, h3, h4⟩, _⟩
  · omega
  · have a := lv_high p m (askN p T i j true)
    have c := lv_high p m (askN p T i j false)
    unfold costQ at h4
    omega
/-! ### for the laws -/
theorem lv_ge_iff {p T : Nat} (hp : 0 < p) (hT : T < 2 ^ 2 ^ p) : 0 ≤ lv p p T ↔ ¬ Bad p T := by
  constructor
  · intro h hb
    obtain ⟨d, _, _, hs, _⟩ := firstN_ge h
    rw [bad_sol d hb] at hs; cases hs
  · intro h
    exact (firstN_le (f := fun d => solB p d T) (n := p + 1) (d := p - 1) (by omega) (good_sol hp hT h)).1
theorem lv_less {p T : Nat} (hp : 0 < p) (hT : T < 2 ^ 2 ^ p) : lv p p T < p := by
  by_cases h : Bad p T
  · have : ¬ 0 ≤ lv p p T := fun h2 => (lv_ge_iff hp hT).1 h2 h
    omega
  · have := (firstN_le (f := fun d => solB p d T) (n := p + 1) (d := p - 1) (by omega) (good_sol hp hT h)).2
    show firstN _ _ < _
    omega
theorem lv_eq_zero {p m T : Nat} : lv p m T = 0 ↔ done0 p T = true := by
  constructor
  · intro h
    obtain ⟨d, _, e, hs, _⟩ := firstN_ge (f := fun d => solB p d T) (n := m + 1) (by show 0 ≤ lv p m T; omega)
    have e : lv p m T = (d : Int) := e
    rw [show d = 0 by omega] at hs
    exact hs
  · exact lv_done
theorem lv_sub {p A B : Nat} (m : Nat) (h : Sub A B) (hB : 0 ≤ lv p m B) : 0 ≤ lv p m A ∧ lv p m A ≤ lv p m B := by
  obtain ⟨d, hd, e, hs, _⟩ := firstN_ge hB
  have e : lv p m B = (d : Int) := e
  rw [e]
  exact firstN_le (f := fun d => solB p d A) hd (sol_sub d h hs)
theorem maj_bit {p w : Nat} : (majN p).testBit w = true ↔ w < 2 ^ p ∧ p < 2 * heads w := by
  unfold majN
  rw [tabF_bit, Bool.and_eq_true, decide_eq_true_eq, decide_eq_true_eq]
theorem maj_lt (p : Nat) : majN p < 2 ^ 2 ^ p := tabF_lt _ _
end Go.Proofs.Ytbnickgjnglblaa

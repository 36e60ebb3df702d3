/- Texts of a proof, merged: Tables, MarksB, MarksC, DrawP, TruthS. -/
import Derived.Test.YthiabicleedleaaPeople
import Derived.Test.YthiabicleedleaaMarksS
import Derived.Test.YthiabicleedleaaMerged4
import Derived.Deep.RegionHeld3
import Derived.Deep.RegionWith
import Derived.Deep.DeepCutAuto
import Derived.Test.YthiabicleedleaaDraw
import Derived.Deep.AppendLies
import Derived.IntWalk
/- Contracts of chapter 1's functions: tables and lists of worlds, in the program and in the reference model. -/
namespace Go.Proofs.Ythiabicleedleaa
open Go.RowKit

/-- the worlds of a table; none for what is no table -/
def wlp (p t : Int) : List Nat := if tOk p t = true then wl t.toNat (2 ^ p.toNat) else []
theorem wlp_no {p t : Int} (h : tOk p t = false) : wlp p t = [] := by simp [wlp, h]
theorem wlp_yes {p t : Int} (h : tOk p t = true) : wlp p t = wl t.toNat (2 ^ p.toNat) := by simp [wlp, h]
theorem wl_all_le (T N : Nat) : ∀ z ∈ wl T N, z < N := fun _ hz => (wl_mem.1 hz).1

set_option maxHeartbeats 400000 in
theorem implWorldsIn_yes (p : Int) (T N : Nat) (h : Hid (tOk p T = true)) (hN : Hid ((N : Int) = 2 ^ p.toNat)) (hN16 : N ≤ 16) (w : World) :
    Calls Try.prog 17 #[.int .i64 p, .int .i64 T] w fun e w' => ∃ v, e = .returned v ∧ w'.ownsRow w.heap.size 3 1 v (wl T N).length (vals (wl T N)) ∧ Below w.heap.size w w' := by
  obtain ⟨i0, hi, hz0, hz1, hz2⟩ := info_parts Try.info3
  have hT := tOk_lt h.out
  obtain ⟨hp1, hp2, _, hT2⟩ := hT
  go_enter Try.func17, Try.ntmps17
  go_wp2_with fail
  refine (implTableOk _ _ _).mono ?_
  rintro e w' ⟨rfl, rfl⟩
  rw [h.out]
  go_wp2_with fail
  refine (implWorldCount p N hN hp1 hp2 _).mono ?_
  rintro e w' ⟨rfl, rfl⟩
  go_wp2
  have Hi := Lib.hid hi; clear hi
  have Hz0 := Lib.hid hz0; clear hz0
  have Hz1 := Lib.hid hz1; clear hz1
  have Hz2 := Lib.hid hz2; clear hz2
  obtain ⟨wo, rfl⟩ : ∃ wo : World, wo = w := ⟨_, rfl⟩
  go_loopw [5, 6, 13] (fun v _ i wr => ∃ k : Nat, k ≤ N ∧ i = .int .i64 k ∧ wr.ownsRow wo.heap.size 3 1 v (wl T k).length (vals (wl T k)) ∧ Below wo.heap.size wo wr)
    (fun _ _ i _ => N - (intOf i).toNat)
  case atStart => exact ⟨0, Nat.zero_le _, rfl, World.ownsRow_nil _ _ _ _, Below.refl _ _⟩
  case round =>
    obtain ⟨k, hk, rfl, hown, hbel⟩ := hrel
    by_cases hlt : k < N
    · by_cases hbit : T.testBit k = true
      · have htest := and_one_yes (by omega) hbit
        go_wp2_with (at_builtin; refine wpList_append_own _ rfl _ _ 39 rfl wo.heap.size 3 i0 (.int .i64 0) 1 8 Try.underlying39 Hi.out Hz0.out Hz1.out Hz2.out rfl (by decide) _ _ _ rfl (hown.alloc _) ⟨wr.heap.size, 0, none⟩ 1 1 [.int .i64 k] rfl rfl ?c1 ?c2 ?c3 ?c4 ?c5 ?_)
        case c1 => exact (cell_one_new _ _ _)
        case c2 => simp [Value.oneCell']
        case c3 => have := wl_le T k; unfold maxLen; omega
        case c4 => have := wl_le T k; omega
        case c5 => have := hbel.size; simp; omega
        intro v' w1 hown' hgrow _
        have hs := wl_succ T k
        rw [if_pos hbit] at hs
        have hb1 : Below wo.heap.size wo w1 := (hbel.alloc hbel.size _).grown hgrow (by simp; have := hbel.size; omega) (fun k hk => (hown.lt k hk).1)
        have ho1 : w1.ownsRow wo.heap.size 3 1 v' (wl T (k+1)).length (vals (wl T (k+1))) := by
          rw [hs]; simpa [vals] using hown'
        clear hs hown' hgrow hown
        go_wp2
        go_roundw
        case rel => exact ⟨k + 1, by omega, by go_num, ho1, hb1⟩
        case measure => simp [intOf]; omega
      · have hbit' : T.testBit k = false := by simpa using hbit
        have htest := and_one_no (by omega) hbit'
        have hs := wl_succ T k
        rw [if_neg hbit, List.append_nil] at hs
        have ho1 : wr.ownsRow wo.heap.size 3 1 u5 (wl T (k+1)).length (vals (wl T (k+1))) := by
          rw [hs]; exact hown
        clear hs hown
        go_wp2
        go_roundw
        case rel => exact ⟨k + 1, by omega, by go_num, ho1, hbel⟩
        case measure => simp [intOf]; omega
    · have : k = N := by omega
      subst this
      go_wp2
      go_ret
      exact ⟨_, rfl, hown, hbel⟩

set_option maxHeartbeats 400000 in
theorem implWorldsIn_no (p x : Int) (h : Hid (tOk p x = false)) (w : World) :
    Calls Try.prog 17 #[.int .i64 p, .int .i64 x] w fun e w' => e = .returned (.slice none 0 0) ∧ w = w' := by
  go_enter Try.func17, Try.ntmps17
  go_wp2_with fail
  refine (implTableOk _ _ _).mono ?_
  rintro e w' ⟨rfl, rfl⟩
  rw [h.out]
  go_wp2
  go_ret
  exact ⟨rfl, rfl⟩

theorem implWorldsIn (p t : Int) (w : World) :
    Calls Try.prog 17 #[.int .i64 p, .int .i64 t] w fun e w' => ∃ v, e = .returned v ∧ w'.ownsRow w.heap.size 3 1 v (wlp p t).length (vals (wlp p t)) ∧ Below w.heap.size w w' := by
  by_cases h : tOk p t = true
  · obtain ⟨hp1, hp2, h0, h1⟩ := tOk_lt h
    obtain ⟨T, rfl⟩ := Int.eq_ofNat_of_zero_le h0
    rw [wlp_yes h]
    refine implWorldsIn_yes p T (2 ^ p.toNat) h (cnt_of p) ?_ w
    rcases p_cases hp1 hp2 with rfl | rfl | rfl | rfl <;> decide
  · have h' : tOk p t = false := by simpa using h
    rw [wlp_no h']
    refine (implWorldsIn_no p t h' w).mono ?_
    rintro e w' ⟨rfl, rfl⟩
    exact ⟨_, rfl, World.ownsRow_nil _ _ _ _, Below.refl _ _⟩


/-- the table of some worlds; -1 if one of them is none -/
def allW (p : Int) (zs : List Int) : Bool := zs.all fun z => wOk p z
def tow (p : Int) (zs : List Int) : Int := if pOk p && allW p zs then (tabOf (zs.map Int.toNat) : Int) else -1
theorem tow_bad {p : Int} {zs : List Int} {k : Nat} (hk : k < zs.length) (h : wOk p (zs.getD k 0) = false) : tow p zs = -1 := by
  have hf : allW p zs = false := by
    rw [allW, List.all_eq_false]
    refine ⟨zs.getD k 0, ?_, by rw [h]; decide⟩
    have e : zs.getD k 0 = zs[k] := by simp [List.getD, hk]
    rw [e]; exact List.getElem_mem hk
  simp [tow, hf]
theorem tow_no {p : Int} {zs : List Int} (h : pOk p = false) : tow p zs = -1 := by simp [tow, h]
theorem tow_yes {p : Int} {zs : List Int} (h : pOk p = true) (h' : ∀ j, j < zs.length → wOk p (zs.getD j 0) = true) : tow p zs = (tabOf (zs.map Int.toNat) : Int) := by
  have : allW p zs = true := by
    rw [allW, List.all_eq_true]
    intro z hz
    obtain ⟨j, hj, rfl⟩ := List.getElem_of_mem hz
    have := h' j hj
    rwa [show zs.getD j 0 = zs[j] from by simp [List.getD, hj]] at this
  simp [tow, h, this]
/-- the table of the first k worlds -/
def tabK (zs : List Int) (k : Nat) : Nat := tabOf ((zs.take k).map Int.toNat)
theorem tabK_succ {zs : List Int} {k : Nat} (hk : k < zs.length) : tabK zs (k + 1) = tabK zs k ||| 1 <<< (zs.getD k 0).toNat := by
  unfold tabK
  rw [List.take_succ_eq_append_getElem hk, List.map_append]
  have e : zs.getD k 0 = zs[k] := by simp [List.getD, hk]
  rw [e]
  exact tabOf_snoc _ _
theorem tabK_lt {p : Int} {zs : List Int} {k : Nat} (h : ∀ j, j < k → wOk p (zs.getD j 0) = true) (hk : k ≤ zs.length) : tabK zs k < 65536 := by
  refine tabOf_lt _ 16 fun i hi => ?_
  obtain ⟨z, hz, rfl⟩ := List.mem_map.1 hi
  obtain ⟨j, hj, rfl⟩ := List.getElem_of_mem hz
  have hj' : j < k := by simp at hj; omega
  have := h j hj'
  have e : zs.getD j 0 = (zs.take k)[j] := by simp [List.getD, show j < zs.length by omega]
  rw [e] at this
  have := wOk_lt this
  omega
theorem or_shl {t x : Nat} (ht : t < 65536) (hx : x < 16) : bits BinOp.or IntKind.i64 (t : Int) (wrap64 (2 ^ min x 64)) = ((t ||| 1 <<< x : Nat) : Int) := by
  have e : (2 : Int) ^ min x 64 = ((1 <<< x : Nat) : Int) := by
    rw [Nat.min_eq_left (by omega), Nat.one_shiftLeft]; simp
  have hl : 1 <<< x ≤ 65536 := by
    rw [Nat.one_shiftLeft]; exact Nat.le_trans (Nat.pow_le_pow_right (by decide) (show x ≤ 16 by omega)) (by decide)
  rw [e]
  generalize 1 <<< x = y at *
  have hw : wrap64 (y : Int) = (y : Int) := by unfold wrap64; omega
  rw [hw, bits_or_nat _ _ (by omega) (by omega)]

theorem or_shlN {t x N : Nat} (ht : t < 2 ^ N) (hN : N ≤ 16) (hx : x < N) : bits BinOp.or IntKind.i64 (t : Int) (wrap64 (2 ^ min x 64)) = ((t ||| 1 <<< x : Nat) : Int) :=
  or_shl (Nat.lt_of_lt_of_le ht (by exact Nat.pow_le_pow_right (by decide) hN)) (by omega)
theorem below_drewN {B : Nat} {a w : World} (h : Below B a w) (n : Nat) : Below B a (w.drewN n) := h.trans ⟨rfl, rfl, rfl, Nat.le_refl _, fun _ _ => rfl⟩


set_option maxHeartbeats 400000 in
theorem specIn (n a b : Int) (w : World) :
    Calls Try.prog 53 #[.int .i64 n, .int .i64 a, .int .i64 b] w fun e w' => e = .returned (.bool (decide (a ≤ n ∧ n ≤ b))) ∧ w = w' := by
  by_cases h : a ≤ n
  all_goals
    go_enter Try.func53, Try.ntmps53
    go_wp2
    go_ret
    exact ⟨ret_bool (by rw [Bool.eq_iff_iff]; simp; omega), rfl⟩


/-! ### the opposite table -/
/-- the worlds of a table below n, each turned round -/
def turned (T n : Nat) (k : Nat) : Nat := tabOf ((wl T k).map fun i => n - 1 - i)
theorem turned_lt {T n k : Nat} (_hk : k ≤ n) (hn : 0 < n) : turned T n k < 2 ^ n :=
  tabOf_lt _ _ fun i hi => by obtain ⟨j, hj, rfl⟩ := List.mem_map.1 hi; omega
theorem turned_succ (T n k : Nat) : turned T n (k + 1) = if T.testBit k then turned T n k ||| 1 <<< (n - 1 - k) else turned T n k := by
  unfold turned
  rw [wl_succ]
  split
  · rw [List.map_append]; exact tabOf_snoc _ _
  · simp
def opt (p t : Int) : Int := if tOk p t = true then (turned t.toNat (2 ^ p.toNat) (2 ^ p.toNat) : Int) else -1

theorem or_turn {T N k : Nat} (hk : k < N) (hN : N ≤ 16) :
    bits BinOp.or IntKind.i64 (turned T N k : Int) (wrap64 (((T : Int) / 2 ^ k).tmod 2 * 2 ^ (N - 1 - k))) = (turned T N (k + 1) : Int) := by
  have ht : turned T N k < 65536 := Nat.lt_of_lt_of_le (turned_lt (Nat.le_of_lt hk) (by omega)) (by exact Nat.pow_le_pow_right (by decide) hN)
  have hl : 1 <<< (N - 1 - k) ≤ 65536 := by
    rw [Nat.one_shiftLeft]; exact Nat.le_trans (Nat.pow_le_pow_right (by decide) (show N - 1 - k ≤ 16 by omega)) (by decide)
  have e : (2 : Int) ^ (N - 1 - k) = ((1 <<< (N - 1 - k) : Nat) : Int) := by rw [Nat.one_shiftLeft]; simp
  rw [tmod_two_val, turned_succ, e]
  generalize 1 <<< (N - 1 - k) = y at *
  have hw : wrap64 (y : Int) = (y : Int) := by unfold wrap64; omega
  split
  · rw [Int.one_mul, hw, bits_or_nat _ _ (by omega) (by omega)]
  · rw [Int.zero_mul]
    have := bits_or_nat (turned T N k) 0 (by omega) (by decide)
    rw [show wrap64 0 = ((0 : Nat) : Int) from by unfold wrap64; decide, this, Nat.or_zero]



theorem two_pow_N {p : Int} (h1 : 1 ≤ p) (h2 : p ≤ 4) : 2 ≤ 2 ^ p.toNat ∧ 2 ^ p.toNat ≤ 16 := by
  rcases p_cases h1 h2 with rfl | rfl | rfl | rfl <;> decide
theorem opt_no {p t : Int} (h : tOk p t = false) : opt p t = -1 := by simp [opt, h]
theorem opt_yes {p : Int} {T : Nat} (h : tOk p T = true) : opt p T = (turned T (2 ^ p.toNat) (2 ^ p.toNat) : Int) := by simp [opt, h]


/-- what impl.OppositeTable has come to after k worlds of a list -/
def turnK (N : Nat) (l : List Nat) (k : Nat) : Nat := tabOf ((l.take k).map fun i => N - 1 - i)
theorem turnK_succ {N : Nat} {l : List Nat} {k : Nat} (hk : k < l.length) : turnK N l (k + 1) = turnK N l k ||| 1 <<< (N - 1 - l[k]) := by
  unfold turnK
  rw [List.take_succ_eq_append_getElem hk, List.map_append]
  exact tabOf_snoc _ _
theorem turnK_lt {N : Nat} {l : List Nat} {k : Nat} (hN : 0 < N) : turnK N l k < 2 ^ N :=
  tabOf_lt _ _ fun i hi => by obtain ⟨j, hj, rfl⟩ := List.mem_map.1 hi; omega

set_option maxHeartbeats 1000000 in
theorem implOppositeTable (p t : Int) (w : World) :
    Calls Try.prog 26 #[.int .i64 p, .int .i64 t] w fun e w' => e = .returned (.int .i64 (opt p t)) ∧ Below w.heap.size w w' := by
  by_cases h : tOk p t = true
  · obtain ⟨h1, h2, h3, h4⟩ := tOk_lt h
    obtain ⟨T, rfl⟩ := Int.eq_ofNat_of_zero_le h3
    have H := Lib.hid h
    have Ho := Lib.hid (opt_yes h)
    have Hw := Lib.hid (wlp_yes h)
    have HN := cnt_of p
    obtain ⟨hN2, hN16⟩ := two_pow_N h1 h2
    have hwok : Hid (∀ x : Nat, x < 2 ^ p.toNat → wOk p x = true) := fun x hx => wOk_iff.2 ⟨h1, h2, by omega, by have := HN.out; rw [← this]; exact_mod_cast hx⟩
    clear h h3 h4
    generalize 2 ^ p.toNat = N at *
    go_enter Try.func26, Try.ntmps26
    go_wp2_with fail
    refine (implTableOk _ _ _).mono ?_
    rintro e w' ⟨rfl, rfl⟩
    rw [H.out]
    go_wp2_with fail
    refine (implWorldsIn _ _ _).mono ?_
    rintro e w1 ⟨v, rfl, hown, hbel⟩
    rw [Hw.out, Int.toNat_natCast] at hown
    have hwl := Lib.hid (wl_all_le T N)
    have hres : Hid (turnK N (wl T N) (wl T N).length = turned T N N) := by unfold turnK turned; rw [List.take_length]; rfl
    generalize wl T N = l at *
    rw [vals_nums, ← nums_length] at hown
    have hrd := RdInts.of_own hown
    obtain ⟨ao, cap, rfl, hl, hm, hc0⟩ := hrd
    have hc := Lib.hid hc0; clear hc0
    have hlen := nums_length l
    rw [hlen] at hl ⊢
    clear hown hlen
    unfold maxLen at hm
    go_wp2
    go_loop [5, 7, 16] (fun t _ i => ∃ k : Nat, k ≤ l.length ∧ i = .int .i64 k ∧ t = .int .i64 (turnK N l k)) (fun _ _ i => l.length - (intOf i).toNat)
    case atStart => exact ⟨0, Nat.zero_le _, rfl, rfl⟩
    case round =>
      obtain ⟨k, hk, rfl, rfl⟩ := hrel
      by_cases hlt : k < l.length
      · obtain ⟨b, off, rfl, hb, hcell⟩ := hc.out k (by rw [nums_length]; exact hlt)
        have hx : l[k] < N := hwl.out _ (List.getElem_mem hlt)
        have hg : (nums l).getD k 0 = (l[k] : Int) := by simp [nums, List.getD, hlt]
        rw [hg] at hcell
        clear hg
        have Hs := Lib.hid (turnK_succ (N := N) hlt)
        have Hl := Lib.hid (turnK_lt (N := N) (l := l) (k := k) (by omega))
        generalize l[k] = x at *
        have Hor := Lib.hid (or_shlN (t := turnK N l k) (x := N - 1 - x) Hl.out hN16 (by omega))
        rw [Nat.min_eq_left (show N - 1 - x ≤ 64 by omega)] at Hor
        generalize turnK N l k = t at *
        go_wp2_with fail
        refine (implOppositeWorld_yes p x N (hwok.out x hx) HN _).mono ?_
        rintro e w' ⟨rfl, rfl⟩
        rw [show ((N : Int) - 1 - (x : Int)) = ((N - 1 - x : Nat) : Int) from by omega]
        go_wp2
        go_round
        case rel => exact ⟨k + 1, by omega, by go_num, by rw [Hor.out, Hs.out]⟩
        case measure => simp [intOf]; omega
      · obtain rfl : k = l.length := by omega
        go_wp2
        go_ret
        exact ⟨ret_int (by rw [Ho.out, hres.out]), hbel⟩
  · have h' : tOk p t = false := by simpa using h
    refine (implOppositeTable_no p t h' w).mono ?_
    rintro e w' ⟨rfl, rfl⟩
    exact ⟨ret_int (by rw [opt_no h']), Below.refl _ _⟩

end Go.Proofs.Ythiabicleedleaa
/- Contracts over rows of marks: who is read, and the laws' own helpers. -/
namespace Go.Proofs.Ythiabicleedleaa
open Go.RowKit

/-! ### who is read -/
def rdStep (n : Nat) (m : Int × Int) : Nat := if m.1 = 0 then n ||| 1 <<< m.2.toNat else n
def readN (ms : List (Int × Int)) : Nat := ms.foldl rdStep 0
theorem readN_snoc (ms : List (Int × Int)) (m : Int × Int) : readN (ms ++ [m]) = if m.1 = 0 then readN ms ||| 1 <<< m.2.toNat else readN ms := by
  unfold readN; rw [List.foldl_append]; rfl
theorem readN_succ {ms : List (Int × Int)} {k : Nat} (h : k < ms.length) : readN (ms.take (k + 1)) = if (ms.getD k (0, 0)).1 = 0 then readN (ms.take k) ||| 1 <<< (ms.getD k (0, 0)).2.toNat else readN (ms.take k) := by
  rw [take_snoc (0, 0) ms k h, readN_snoc]
theorem stepS_mkOk {p : Int} {s s' : List Tm} {m : Int × Int} (h : stepS p s m = some s') : mkOk p m.1 m.2 = true := by
  cases hm : mkOk p m.1 m.2 with
  | true => rfl
  | false => rw [step_no1 hm] at h; cases h
theorem runS_mkOk {p : Int} : ∀ {ms : List (Int × Int)} {s s' : List Tm}, runS p ms s = some s' → ∀ m ∈ ms, mkOk p m.1 m.2 = true
  | [], _, _, _ => by simp
  | m :: r, s, s', h => by
    cases h1 : stepS p s m with
    | none => simp [runS, h1] at h
    | some s1 =>
      have h' : runS p r s1 = some s' := by simpa [runS, h1] using h
      intro x hx
      rcases List.mem_cons.1 hx with rfl | hx
      · exact stepS_mkOk h1
      · exact runS_mkOk h' x hx
theorem termOk_mkOk {p : Int} {ms : List (Int × Int)} (h : termOk p ms = true) : ∀ m ∈ ms, mkOk p m.1 m.2 = true := by
  obtain ⟨_, _, t, ht, rfl⟩ := termOk_iff.1 h
  exact runS_mkOk (runS_tm t [] ht)
theorem termOk_get {p : Int} {ms : List (Int × Int)} (h : termOk p ms = true) {k : Nat} (hk : k < ms.length) : mkOk p (ms.getD k (0, 0)).1 (ms.getD k (0, 0)).2 = true := by
  have : ms.getD k (0, 0) = ms[k] := by simp [List.getD, hk]
  rw [this]; exact termOk_mkOk h _ (List.getElem_mem hk)
theorem readN_lt {p : Int} : ∀ {ms : List (Int × Int)}, 1 ≤ p → p ≤ 4 → (∀ m ∈ ms, mkOk p m.1 m.2 = true) → readN ms < 2 ^ p.toNat := by
  intro ms h1 h4 h
  have key : ∀ (l : List (Int × Int)) (n : Nat), n < 2 ^ p.toNat → (∀ m ∈ l, mkOk p m.1 m.2 = true) → l.foldl rdStep n < 2 ^ p.toNat := by
    intro l
    induction l with
    | nil => intro n hn _; exact hn
    | cons m r ih =>
      intro n hn hl
      refine ih _ ?_ (fun x hx => hl x (by simp [hx]))
      unfold rdStep
      split
      · rename_i hm
        refine Nat.or_lt_two_pow hn ?_
        have := hl m (by simp)
        unfold mkOk at this
        rw [decide_eq_true_eq] at this
        rw [Nat.one_shiftLeft]
        exact Nat.pow_lt_pow_right (by decide) (by omega)
      · exact hn
  exact key ms 0 (Nat.two_pow_pos _) h
theorem readN_lt16 {p : Int} {ms : List (Int × Int)} (h : termOk p ms = true) (k : Nat) : readN (ms.take k) < 16 := by
  have hp := (termOk_iff.1 h).1
  have h1 := readN_lt (ms := ms.take k) hp.1 hp.2 (fun m hm => termOk_mkOk h m (List.mem_of_mem_take hm))
  have h2 : 2 ^ p.toNat ≤ 2 ^ 4 := Nat.pow_le_pow_right (by decide) (by omega)
  omega
def readV (p : Int) (ms : List (Int × Int)) : Int := if termOk p ms = true then readN ms else -1
theorem readV_yes {p : Int} {ms : List (Int × Int)} (h : termOk p ms = true) : readV p ms = readN ms := by simp [readV, h]
theorem readV_no {p : Int} {ms : List (Int × Int)} (h : termOk p ms = false) : readV p ms = -1 := by simp [readV, h]
theorem readN_nil : readN [] = 0 := rfl
attribute [local irreducible] readN



/-! ### the laws' helpers -/
theorem marks_eq_of {xs ys : List (Int × Int)} (hl : xs.length = ys.length) (h : ∀ j, j < xs.length → xs.getD j (0, 0) = ys.getD j (0, 0)) : xs = ys := by
  refine List.ext_getElem hl fun j h1 h2 => ?_
  have := h j h1
  simpa [List.getD, h1, h2] using this

set_option maxHeartbeats 1000000 in
theorem sameMarks (xs ys : List (Int × Int)) (B B' : Nat) (a b : Value) (w : World) (hx : RdMarks w B a xs) (hy : RdMarks w B' b ys) :
    Calls Try.prog 14 #[a, b] w fun e w' => e = .returned (.bool (decide (xs = ys))) ∧ ∃ n, w.drewN n = w' := by
  obtain ⟨ao, acap, rfl, hal, ham, hai, hac0⟩ := hx
  obtain ⟨bo, bcap, rfl, hbl, hbm, hbi, hbc0⟩ := hy
  have hac := Lib.hid hac0; clear hac0 hai
  have hbc := Lib.hid hbc0; clear hbc0 hbi
  unfold maxLen at ham hbm
  by_cases hlen : xs.length = ys.length
  · have Hl := Lib.hid hlen
    have hbc1 : Hid (∀ (j : Nat), j < xs.length → ∃ b off, bo = some ⟨b, off, none⟩ ∧ b < B' ∧ w.cell? ⟨b, off + j * 2, none⟩ = some (.int .i64 (ys.getD j (0, 0)).1) ∧ w.cell? ⟨b, off + j * 2 + 1, none⟩ = some (.int .i64 (ys.getD j (0, 0)).2)) := fun j hj => hbc.out j (by omega)
    rw [← hlen] at hbl ⊢
    clear hlen hbc
    go_enter Try.func14, Try.ntmps14
    go_wp2
    go_loopw [5] (fun i wr => ∃ k : Nat, k ≤ xs.length ∧ i = .int .i64 k ∧ Hid (∀ j, j < k → xs.getD j (0, 0) = ys.getD j (0, 0)) ∧ ∃ n, w.drewN n = wr) (fun i _ => xs.length - (intOf i).toNat)
    case atStart => exact ⟨0, Nat.zero_le _, rfl, fun j hj => by omega, 0, rfl⟩
    case round =>
      obtain ⟨k, hk, rfl, hall, nd, rfl⟩ := hrel
      by_cases hlt : k < xs.length
      · obtain ⟨b1, o1, rfl, _, hc1, hc1'⟩ := hac.out k hlt
        obtain ⟨b2, o2, rfl, _, hc2, hc2'⟩ := hbc1.out k hlt
        by_cases hne : xs.getD k (0, 0) = ys.getD k (0, 0)
        · have Hne := Lib.hid hne
          rw [← hne] at hc2 hc2'
          clear hne
          generalize hz : xs.getD k (0, 0) = z at *
          obtain ⟨z1, z2⟩ := z
          dsimp only at hc1 hc1' hc2 hc2'
          have Hz := Lib.hid hz; clear hz
          go_wp2_with fail
          go_quiet (fail)
          go_wp2
          go_roundw
          case rel => exact ⟨k + 1, by omega, by go_num, fun j hj => by
            by_cases hjk : j < k
            · exact hall.out j hjk
            · obtain rfl : j = k := by omega
              rw [Hz.out]; exact Hne.out, _, rfl⟩
          case measure => simp [intOf]; omega
        · have hdec : Hid (decide (xs = ys) = false) := by
            unfold Hid; rw [decide_eq_false_iff_not]; intro e; rw [e] at hne; exact hne rfl
          generalize xs.getD k (0, 0) = z at *
          generalize ys.getD k (0, 0) = z' at *
          obtain ⟨z1, z2⟩ := z
          obtain ⟨y1, y2⟩ := z'
          dsimp only at hc1 hc1' hc2 hc2'
          by_cases h1 : z1 = y1
          · subst h1
            have h2 : (z2 == y2) = false := by rw [beq_eq_false_iff_ne]; intro e; exact hne (by rw [e])
            clear hne
            go_wp2_with fail
            go_quiet (fail)
            go_wp2
            go_ret
            exact ⟨ret_bool (by rw [hdec.out]), _, (World.drewN_drewN _ _ _).symm⟩
          · have h2 : (z1 == y1) = false := by rw [beq_eq_false_iff_ne]; exact h1
            clear hne h1
            go_wp2_with fail
            go_quiet (fail)
            go_wp2
            go_ret
            exact ⟨ret_bool (by rw [hdec.out]), _, (World.drewN_drewN _ _ _).symm⟩
      · obtain rfl : k = xs.length := by omega
        have hdec : Hid (decide (xs = ys) = true) := by
          unfold Hid; rw [decide_eq_true_eq]; exact marks_eq_of Hl.out hall.out
        go_wp2
        go_ret
        exact ⟨ret_bool (by rw [hdec.out]), nd, rfl⟩
  · have hb : ((xs.length : Int) != (ys.length : Int)) = true := by rw [bne_iff_ne]; omega
    have hdec : Hid (decide (xs = ys) = false) := by
      unfold Hid; rw [decide_eq_false_iff_not]; intro e; rw [e] at hlen; exact hlen rfl
    clear hlen
    go_enter Try.func14, Try.ntmps14
    go_wp2
    go_ret
    exact ⟨ret_bool (by rw [hdec.out]), 0, rfl⟩


end Go.Proofs.Ythiabicleedleaa
/- Contracts over rows of marks: the exact laws' copies, marks laid and held. -/
namespace Go.Proofs.Ythiabicleedleaa
open Go.RowKit Go.Joins

theorem Try.infoM : (Try.prog.info? 33).map (fun i => (i.zero, i.size, i.bytes)) = some (some (.agg #[.int .i64 0, .int .i64 0]), 2, 16) := by kernel_rfl

theorem only_of_below {a w : World} (h : Below a.heap.size a w) (row : Option Nat) : a.grownBy w row := ⟨h.os, h.tape, h.output, h.size, fun i hi _ => h.block i hi⟩
theorem own_below {w w' : World} {base n size : Nat} {e : TypeId} {v : Value} {xs : List Value} (h : w.ownsRow base e size v n xs) (hb : Below w.heap.size w w') : w'.ownsRow base e size v n xs := by
  refine h.kept (only_of_below hb none) ?_
  cases v.ownBlock with
  | none => exact .inl rfl
  | some g => exact .inr (by simp)
theorem below_undrew {B : Nat} {w w' : World} (h : Below B w.drew w') : Below B w w' := ⟨h.os, h.tape, h.output, h.size, h.block⟩

/-! ### cells set -/
theorem mcells_set (A R : List (Int × Int)) (m m' : Int × Int) (k : Nat) (hk : A.length = k) :
    ((mcells (A ++ m :: R)).set (k * 2) (.int .i64 m'.1)).set (k * 2 + 1) (.int .i64 m'.2) = mcells (A ++ m' :: R) := by
  subst hk
  have hl := mcells_length A
  rw [mcells_append, mcells_append, List.set_append_right _ _ (by omega), List.set_append_right _ _ (by omega), hl]
  have e1 : A.length * 2 - A.length * 2 = 0 := by omega
  have e2 : A.length * 2 + 1 - A.length * 2 = 1 := by omega
  rw [e1, e2]
  rfl
theorem mcopy_set (zs : List (Int × Int)) (n k : Nat) (hn : zs.length = n) (hk : k < n) :
    ((mcells (zs.take k ++ List.replicate (n - k) (0, 0))).set (k * 2) (.int .i64 (zs.getD k (0, 0)).1)).set (k * 2 + 1) (.int .i64 (zs.getD k (0, 0)).2) = mcells (zs.take (k + 1) ++ List.replicate (n - (k + 1)) (0, 0)) := by
  have hr : List.replicate (n - k) ((0 : Int), (0 : Int)) = (0, 0) :: List.replicate (n - (k + 1)) (0, 0) := by
    rw [show n - k = (n - (k + 1)) + 1 from by omega]; rfl
  rw [hr, take_snoc (0, 0) zs k (by omega), List.append_assoc]
  exact mcells_set _ _ _ _ _ (by simp; omega)
theorem mcells_rep (n : Nat) : mcells (List.replicate n (0, 0)) = List.replicate (n * 2) (Value.int .i64 0) := by
  induction n with
  | zero => rfl
  | succ n ih => rw [show (n + 1) * 2 = n * 2 + 1 + 1 from by omega, List.replicate_succ, List.replicate_succ, List.replicate_succ, ← ih]; rfl
theorem mcells_zero (n : Nat) : (madeCells #[Value.int .i64 0, Value.int .i64 0] (n * 2)).toList = mcells (List.replicate n (0, 0)) := by
  rw [mcells_rep]
  refine List.ext_getElem (by simp [madeCells]) fun i h1 h2 => ?_
  rw [List.getElem_replicate]
  have : i % 2 = 0 ∨ i % 2 = 1 := by omega
  rcases this with h | h <;> simp [madeCells, h]



end Go.Proofs.Ythiabicleedleaa
/- Rows of rows of marks that a call lays for itself. -/
namespace Go.Proofs.Ythiabicleedleaa
open Go.RowKit Go.Joins

theorem Try.infoS : (Try.prog.info? 31).map (fun i => (i.zero, i.size, i.bytes)) = some (some (.slice none 0 0), 1, 24) := by kernel_rfl

/-- some boolean; the reader is at most at c -/
def DrewB (b c : Nat) (w : World) (e : Ending) (w' : World) : Prop := ∃ x : Bool, e = .returned (.bool x) ∧ Rd w' b c ∧ w.grownBy w' (some b)
set_option maxHeartbeats 1000000 in
theorem odd (n : Nat) (b c : Nat) (w : World) (hr : Rd w b c) (hn : n ≤ 1099511627776) (hc : c ≤ 1099511627776) :
    Calls Try.prog 60 #[.pointer (some ⟨b, 0, none⟩), .int .i64 n] w (DrewB b (c + 1) w) := by
  by_cases h0 : 0 < n
  · have hr' := Lib.hid hr; clear hr
    go_enter Try.func60, Try.ntmps60
    go_wp2_with fail
    refine (pick _ _ _ _ hr'.out (by omega) (by omega) (by omega)).mono ?_
    rintro e w1 ⟨x, hx0, hx1, rfl, hrd1, hg1⟩
    have Hr1 := Lib.hid hrd1
    have Hg1 := Lib.hid hg1
    clear hrd1 hg1
    go_wp2
    go_ret
    exact ⟨_, rfl, Hr1.out, Hg1.out⟩
  · obtain rfl : n = 0 := by omega
    have hr' := Lib.hid hr; clear hr
    go_enter Try.func60, Try.ntmps60
    go_wp2_with fail
    go_ret
    exact ⟨_, rfl, hr'.out.mono (by omega), World.grownBy.refl _ _⟩

/-! ### rows of rows of marks -/
abbrev TM : TypeId := 33
abbrev TS : TypeId := 31
def PartsIn (w : World) (base : Nat) (v : Value) (ps : List (Value × List (Int × Int))) : Prop :=
  w.ownsRow base TS 1 v ps.length (ps.map (·.1)) ∧ ∀ q ∈ ps, w.ownsRow base TM 2 q.1 q.2.length (mcells q.2) ∧ q.2 ≠ [] ∧ I64s q.2
def tot (ps : List (Value × List (Int × Int))) : Nat := (ps.map (·.2.length)).sum
theorem own_ne {w : World} {base base' size size' n n' : Nat} {e e' : TypeId} {v v' : Value} {xs xs' : List Value} (h : w.ownsRow base e size v n xs) (h' : w.ownsRow base' e' size' v' n' xs') (hne : e ≠ e') :
    v.ownBlock = none ∨ v.ownBlock ≠ v'.ownBlock := by
  rcases h.2 with ⟨rfl, _⟩ | ⟨g, cap, cur, rfl, _, hg, _⟩
  · exact .inl rfl
  · right
    rcases h'.2 with ⟨rfl, _⟩ | ⟨g', cap', cur', rfl, _, hg', _⟩
    · simp [Value.ownBlock]
    · intro he
      have : g = g' := by simpa [Value.ownBlock] using he
      subst this
      rw [hg] at hg'
      injection hg' with hg'
      injection hg' with _ ht
      exact hne ht
theorem own_row {w w' : World} {base size n b : Nat} {e : TypeId} {v : Value} {xs : List Value} (h : w.ownsRow base e size v n xs) (hg : w.grownBy w' (some b)) (hb : b < base) : w'.ownsRow base e size v n xs := by
  refine h.kept hg ?_
  cases hv : v.ownBlock with
  | none => exact .inl rfl
  | some g => right; intro he; cases he; have := (h.lt b hv).1; omega
theorem PartsIn.row {w w' : World} {base b : Nat} {v : Value} {ps : List (Value × List (Int × Int))} (h : PartsIn w base v ps) (hg : w.grownBy w' (some b)) (hb : b < base) : PartsIn w' base v ps :=
  ⟨own_row h.1 hg hb, fun q hq => ⟨own_row (h.2 q hq).1 hg hb, (h.2 q hq).2⟩⟩
theorem PartsIn.alloc {w : World} {base : Nat} {v : Value} {ps : List (Value × List (Int × Int))} (h : PartsIn w base v ps) (o : Obj) : PartsIn (w.alloc o) base v ps :=
  ⟨h.1.alloc o, fun q hq => ⟨(h.2 q hq).1.alloc o, (h.2 q hq).2⟩⟩
theorem own_new (w : World) (base : Nat) (k x : Int) (hb : base ≤ w.heap.size) : (w.alloc (.cells #[.int .i64 k, .int .i64 x] TM)).ownsRow base TM 2 (.slice (some ⟨w.heap.size, 0, none⟩) 1 1) 1 (mcells [(k, x)]) :=
  ⟨rfl, .inr ⟨w.heap.size, 1, _, rfl, hb, heap_alloc_new w _, Nat.le_refl _, by unfold maxLen; omega, rfl, rfl⟩⟩
theorem I64s_one {k x : Int} (hk : I64 k) (hx : I64 x) : I64s [(k, x)] := by intro m hm; simp at hm; subst hm; exact ⟨hk, hx⟩
theorem I64_small {x : Int} (h0 : -100 ≤ x) (h1 : x ≤ 100) : I64 x := by unfold I64; omega
theorem tot_snoc (ps : List (Value × List (Int × Int))) (q : Value × List (Int × Int)) : tot (ps ++ [q]) = tot ps + q.2.length := by simp [tot]
/-- behind an append of one part -/
theorem PartsIn.push {w w' : World} {base : Nat} {v v' : Value} {ps : List (Value × List (Int × Int))} {q : Value × List (Int × Int)} (h : PartsIn w base v ps)
    (hq : w.ownsRow base TM 2 q.1 q.2.length (mcells q.2) ∧ q.2 ≠ [] ∧ I64s q.2) (hown : w'.ownsRow base TS 1 v' (ps.length + 1) (ps.map (·.1) ++ [q.1])) (hg : w.grownBy w' v.ownBlock) : PartsIn w' base v' (ps ++ [q]) := by
  have hne : TM ≠ TS := by decide
  refine ⟨by simpa using hown, fun r hr => ?_⟩
  rcases List.mem_append.1 hr with hr | hr
  · exact ⟨(h.2 r hr).1.kept hg (own_ne (h.2 r hr).1 h.1 hne), (h.2 r hr).2⟩
  · simp at hr; subst hr
    exact ⟨hq.1.kept hg (own_ne hq.1 h.1 hne), hq.2⟩
theorem own_row_block {w : World} {base size n : Nat} {e : TypeId} {v : Value} {xs : List Value} (h : w.ownsRow base e size v n xs) {b : Nat} (hb : b < base) : ∀ k, v.ownBlock = some k → b < k := fun k hk => Nat.lt_of_lt_of_le hb (h.lt k hk).1
theorem only_alloc {a w : World} {row : Option Nat} (h : a.grownBy w row) (o : Obj) : a.grownBy (w.alloc o) row :=
  ⟨h.os, h.tape, h.output, Nat.le_trans h.size (by simp), fun i hi hne => (Below.heap_alloc w o i (Nat.lt_of_lt_of_le hi h.size)).trans (h.block i hi hne)⟩
theorem grown_own {a w w' : World} {row0 row : Option Nat} (h : a.grownBy w row0) (hg : w.grownBy w' row) (hr : ∀ k, row = some k → a.heap.size ≤ k) : a.grownBy w' row0 :=
  ⟨hg.os.trans h.os, hg.tape.trans h.tape, hg.output.trans h.output, Nat.le_trans h.size hg.size, fun i hi hne => (hg.block i (Nat.lt_of_lt_of_le hi h.size) (fun e => by have := hr i e.symm; omega)).trans (h.block i hi hne)⟩
theorem Rd.alloc {w : World} {b c : Nat} (h : Rd w b c) (o : Obj) : Rd (w.alloc o) b c := h.kept fun k hk => Below.heap_alloc w o k (by have := h.lt; omega)

theorem news1 (W : World) (g : Nat) (hg : g = W.heap.size) (u : Value) (T : TypeId) : ∀ (j : Nat) (u' : Value), [u][j]? = some u' → (W.alloc (.cells #[u] T)).cell? ((⟨g, 0, none⟩ : Addr).add j) = some u' := by
  subst hg; exact cell_one_new W u T
/-- one part more: how a round of the first loop ends -/
theorem part_added {w w4 w5 : World} {b : Nat} {v v' : Value} {ps : List (Value × List (Int × Int))} {kd z : Int} {c : Nat} {o : Obj} (hb : b < w.heap.size) (hp : PartsIn w4 w.heap.size v ps) (hz : I64 z) (hk : I64 kd) (hG : w.grownBy w4 (some b)) (hr : Rd w4 b c)
    (hown : w5.ownsRow w.heap.size TS 1 v' (ps.length + 1) (ps.map (·.1) ++ [.slice (some ⟨w4.heap.size, 0, none⟩) 1 1]))
    (hg : ((w4.alloc (.cells #[.int .i64 kd, .int .i64 z] TM)).alloc o).grownBy w5 v.ownBlock) :
    PartsIn w5 w.heap.size v' (ps ++ [(.slice (some ⟨w4.heap.size, 0, none⟩) 1 1, [(kd, z)])]) ∧ w.grownBy w5 (some b) ∧ Rd w5 b c := by
  have hp2 := (hp.alloc (.cells #[.int .i64 kd, .int .i64 z] TM)).alloc o
  refine ⟨hp2.push ⟨(own_new w4 w.heap.size kd z hG.size).alloc o, by simp, I64s_one hk hz⟩ hown hg, ?_, ?_⟩
  · exact grown_own (only_alloc (only_alloc hG _) _) hg fun k hk => (hp.1.lt k hk).1
  · exact ((hr.alloc _).alloc _).grown hg (own_row_block hp.1 hb)

theorem own_mono {w : World} {base base' n size : Nat} {e : TypeId} {v : Value} {xs : List Value} (h : w.ownsRow base' e size v n xs) (hb : base ≤ base') : w.ownsRow base e size v n xs := by
  refine ⟨h.1, ?_⟩
  rcases h.2 with h0 | ⟨g, cap, cur, hv, hg, rest⟩
  · exact .inl h0
  · exact .inr ⟨g, cap, cur, hv, by omega, rest⟩
def lenV : Value → Nat | .slice _ n _ => n | _ => 0
abbrev PQ := Value × List (Int × Int)
def pq0 : PQ := (.slice none 0 0, [])
theorem parts_at {w : World} {base g cap : Nat} {ps : List PQ} (h : PartsIn w base (.slice (some ⟨g, 0, none⟩) ps.length cap) ps) {y : Nat} (hy : y < ps.length) :
    ∃ gq cq, w.cell? ⟨g, y, none⟩ = some (.slice (some ⟨gq, 0, none⟩) (ps.getD y pq0).2.length cq) ∧ (ps.getD y pq0).1 = .slice (some ⟨gq, 0, none⟩) (ps.getD y pq0).2.length cq ∧ 0 < (ps.getD y pq0).2.length ∧ I64s (ps.getD y pq0).2 ∧
      w.ownsRow base TM 2 (.slice (some ⟨gq, 0, none⟩) (ps.getD y pq0).2.length cq) (ps.getD y pq0).2.length (mcells (ps.getD y pq0).2) := by
  have hg : ps.getD y pq0 = ps[y] := by simp [List.getD, hy]
  obtain ⟨ho, hne, hi⟩ := h.2 ps[y] (List.getElem_mem hy)
  have hpos : 0 < (ps[y]).2.length := List.length_pos_iff.2 hne
  obtain ⟨gq, cq, hv⟩ := ownsRow_form ho hpos
  rw [hg]
  refine ⟨gq, cq, ?_, hv, hpos, hi, by rw [← hv]; exact ho⟩
  rw [h.1.cellAt y (by omega), ← hv]
  simp [hy]
theorem le_sum_of_mem {l : List Nat} {x : Nat} (h : x ∈ l) : x ≤ l.sum := by
  induction l with
  | nil => simp at h
  | cons a r ih =>
    rw [List.sum_cons]
    rcases List.mem_cons.1 h with rfl | h
    · omega
    · have := ih h; omega
theorem tot_append (ps qs : List (Value × List (Int × Int))) : tot (ps ++ qs) = tot ps + tot qs := by simp [tot]
theorem tot_cons (q : Value × List (Int × Int)) (qs : List (Value × List (Int × Int))) : tot (q :: qs) = q.2.length + tot qs := by simp [tot]
theorem tot_parts (ps : List (Value × List (Int × Int))) (y : Nat) (hy : y < ps.length) : tot ps = tot (ps.take y) + ((ps[y]).2.length + tot (ps.drop (y + 1))) := by
  rw [← tot_cons, ← List.drop_eq_getElem_cons hy, ← tot_append, List.take_append_drop]
theorem tot_le {ps : List PQ} : ∀ {y : Nat}, y < ps.length → (ps.getD y pq0).2.length ≤ tot ps := by
  intro y hy
  have hg : ps.getD y pq0 = ps[y] := by simp [List.getD, hy]
  rw [hg]
  unfold tot
  exact le_sum_of_mem (List.mem_map.2 ⟨_, List.getElem_mem hy, rfl⟩)
theorem I64s_append {xs ys : List (Int × Int)} (h : I64s xs) (k : I64s ys) : I64s (xs ++ ys) := by
  intro m hm
  rcases List.mem_append.1 hm with hm | hm
  · exact h m hm
  · exact k m hm
/-- a part made one mark longer, and laid at its place -/
theorem part_not {w wr w5 : World} {b g cap y : Nat} {v2 : Value} {ps : List PQ} {kd : Int} (hb : b < w.heap.size) (hps : PartsIn wr w.heap.size (.slice (some ⟨g, 0, none⟩) ps.length cap) ps) (hy : y < ps.length) (hk : I64 kd)
    (hle : w.heap.size ≤ wr.heap.size) (hg : wr.grownBy w5 (some b)) (hown : w5.ownsRow wr.heap.size TM 2 v2 ((ps.getD y pq0).2.length + 1) (mcells (ps.getD y pq0).2 ++ mcells [(kd, 0)])) :
    ∃ ps' : List PQ, PartsIn (w5.setCell ⟨g, y, none⟩ v2) w.heap.size (.slice (some ⟨g, 0, none⟩) ps'.length cap) ps' ∧ ps'.length = ps.length ∧ tot ps' = tot ps + 1 := by
  have hq : ps.getD y pq0 = ps[y] := by simp [List.getD, hy]
  rw [hq] at hown
  have h5 := hps.row hg hb
  refine ⟨ps.set y (v2, (ps[y]).2 ++ [(kd, 0)]), ⟨?_, fun q hq => ?_⟩, by simp, ?_⟩
  · have := (h5.1.stored y v2).1
    simpa [List.map_set] using this
  · have hst := (h5.1.stored y v2).2
    rcases List.mem_or_eq_of_mem_set hq with hm | rfl
    · refine ⟨(h5.2 q hm).1.kept hst ?_, (h5.2 q hm).2⟩
      have := own_ne (h5.2 q hm).1 h5.1 (by decide)
      simpa [Value.ownBlock] using this
    · refine ⟨?_, by simp, I64s_append (h5.2 _ (List.getElem_mem hy)).2.2 (I64s_one hk (I64_small (by omega) (by omega)))⟩
      have h1 := own_mono hown hle
      have h2 : w5.ownsRow w.heap.size TM 2 v2 ((ps[y]).2 ++ [(kd, (0 : Int))]).length (mcells ((ps[y]).2 ++ [(kd, 0)])) := by rw [mcells_append]; simpa using h1
      refine h2.kept hst ?_
      have := own_ne h2 h5.1 (by decide)
      simpa [Value.ownBlock] using this
  · rw [List.set_eq_take_append_cons_drop, if_pos hy, tot_append, tot_cons, tot_parts ps y hy]
    simp
    omega

theorem news2 (W : World) (g : Nat) (hg : g = W.heap.size) (k x : Int) (T : TypeId) : ∀ (j : Nat) (u' : Value), (mcells [(k, x)])[j]? = some u' → (W.alloc (.cells #[.int .i64 k, .int .i64 x] T)).cell? ((⟨g, 0, none⟩ : Addr).add j) = some u' := by
  subst hg
  exact World.news_of_block (cs := #[.int .i64 k, .int .i64 x]) (t := T) (fr := (0, 0)) (heap_alloc_new W _)
/-- behind two appends onto a row of one's own: what stood before stands -/
theorem grown_any {a w : World} {row : Option Nat} (h : a.grownBy w none) : a.grownBy w row := ⟨h.os, h.tape, h.output, h.size, fun i hi _ => h.block i hi (by simp)⟩
theorem Rd.set {w : World} {b c g y : Nat} {u : Value} (h : Rd w b c) (hg : b < g) : Rd (w.setCell ⟨g, y, none⟩ u) b c := h.kept fun k hk => Below.heap_setCell _ _ _ _ (by intro e; simp at e; omega)
theorem grown2 {w4 w5 w6 : World} {v0 v1 : Value} {o0 o1 : Obj} (h1 : (w4.alloc o0).grownBy w5 v0.ownBlock) (h2 : (w5.alloc o1).grownBy w6 v1.ownBlock)
    (r0 : ∀ k, v0.ownBlock = some k → w4.heap.size ≤ k) (r1 : ∀ k, v1.ownBlock = some k → w4.heap.size ≤ k) : w4.grownBy w6 none :=
  grown_own (only_alloc (grown_own (only_alloc (World.grownBy.refl _ _) _) h1 r0) _) h2 r1

theorem own_cap {w : World} {base n size g cap : Nat} {e : TypeId} {xs : List Value} (h : w.ownsRow base e size (.slice (some ⟨g, 0, none⟩) n cap) n xs) : n ≤ cap ∧ cap ≤ maxLen := by
  rcases h.2 with ⟨h0, _⟩ | ⟨g', cap', cur, h0, _, _, hn, hm, _⟩
  · simp at h0
  · have : cap = cap' := by simpa using congrArg (fun v => match v with | Value.slice _ _ c => c | _ => 0) h0
    subst this; exact ⟨hn, hm⟩
theorem parts_one {w : World} {base : Nat} {v : Value} {ps : List PQ} (h : PartsIn w base v ps) : ∀ u ∈ ps.map (·.1), u.oneCell' = true := by
  intro u hu
  obtain ⟨q, hq, rfl⟩ := List.mem_map.1 hu
  rcases ownsRow_forms (h.2 q hq).1 with ⟨he, _⟩ | ⟨g, cap, he⟩ <;> rw [he] <;> rfl
theorem parts_take {w : World} {base g cap : Nat} {ps : List PQ} (h : PartsIn w base (.slice (some ⟨g, 0, none⟩) ps.length cap) ps) (y : Nat) : ∀ (j : Nat) (u : Value), ((ps.map (·.1)).take y)[j]? = some u → w.cell? ((⟨g, 0, none⟩ : Addr).add j) = some u := by
  intro j u hu
  refine h.1.cells (g := g) rfl j u ?_
  rw [List.getElem?_take] at hu
  split at hu
  · exact hu
  · cases hu
theorem add_plain' (g k j : Nat) : (⟨g, k, none⟩ : Addr).add j = ⟨g, k + j, none⟩ := by unfold Addr.add; split <;> simp_all
theorem parts_drop {w : World} {base g cap : Nat} {ps : List PQ} (h : PartsIn w base (.slice (some ⟨g, 0, none⟩) ps.length cap) ps) (y : Nat) : ∀ (j : Nat) (u : Value), ((ps.map (·.1)).drop y)[j]? = some u → w.cell? ((⟨g, y, none⟩ : Addr).add j) = some u := by
  intro j u hu
  rw [List.getElem?_drop] at hu
  have := h.1.cells (g := g) rfl (y + j) u hu
  rw [add_plain'] at this ⊢
  rwa [Nat.zero_add] at this
/-- two parts made one, and the row laid anew -/
theorem part_join {w wr w8 w9 : World} {b : Nat} {v vb v9 : Value} {y k : Nat} {ps : List PQ} {kd : Int} {xs9 : List Value} (hb : b < w.heap.size) (hps : PartsIn wr w.heap.size v ps) (hy : y + 1 < ps.length) (hk : I64 kd)
    (hle : w.heap.size ≤ wr.heap.size) (h8 : wr.grownBy w8 (some b)) (h9 : w8.grownBy w9 none)
    (hown : w8.ownsRow wr.heap.size TM 2 vb k (mcells (ps.getD y pq0).2 ++ mcells (ps.getD (y + 1) pq0).2 ++ mcells [(kd, 0)])) (hkk : k = (ps.getD y pq0).2.length + (ps.getD (y + 1) pq0).2.length + 1)
    (hrow : w9.ownsRow w8.heap.size TS 1 v9 (ps.length - 1) xs9) (hxs : xs9 = (ps.map (·.1)).take y ++ [vb] ++ (ps.map (·.1)).drop (y + 2)) :
    ∃ ps' : List PQ, PartsIn w9 w.heap.size v9 ps' ∧ ps'.length + 1 = ps.length ∧ tot ps' = tot ps + 1 := by
  have hq : ps.getD y pq0 = ps[y] := by simp [List.getD, show y < ps.length by omega]
  have hr : ps.getD (y + 1) pq0 = ps[y + 1] := by simp [List.getD, hy]
  rw [hq, hr] at hown hkk
  rw [hkk] at hown
  subst hxs
  have hle8 : w.heap.size ≤ w8.heap.size := Nat.le_trans hle h8.size
  have hp9 : PartsIn w9 w.heap.size v ps := (hps.row h8 hb).row (grown_any h9) hb
  have hlen : (ps.take y ++ (vb, (ps[y]).2 ++ (ps[y + 1]).2 ++ [(kd, (0 : Int))]) :: ps.drop (y + 2)).length = ps.length - 1 := by simp; omega
  refine ⟨ps.take y ++ (vb, (ps[y]).2 ++ (ps[y + 1]).2 ++ [(kd, (0 : Int))]) :: ps.drop (y + 2), ⟨?_, fun q hm => ?_⟩, by rw [hlen]; omega, ?_⟩
  · rw [hlen]
    have := own_mono hrow hle8
    simpa [List.map_take, List.map_drop] using this
  · rcases List.mem_append.1 hm with hm | hm
    · exact hp9.2 q (List.mem_of_mem_take hm)
    · rcases List.mem_cons.1 hm with rfl | hm
      · refine ⟨?_, by simp, I64s_append (I64s_append (hps.2 _ (List.getElem_mem _)).2.2 (hps.2 _ (List.getElem_mem _)).2.2) (I64s_one hk (I64_small (by omega) (by omega)))⟩
        have h1 := own_row (own_mono hown hle) (grown_any h9) hb
        have e : ((ps[y]).2 ++ (ps[y + 1]).2 ++ [(kd, (0 : Int))]).length = (ps[y]).2.length + (ps[y + 1]).2.length + 1 := by simp; omega
        rw [mcells_append, mcells_append]
        show w9.ownsRow w.heap.size TM 2 vb ((ps[y]).2 ++ (ps[y + 1]).2 ++ [(kd, (0 : Int))]).length _
        rw [e]
        exact h1
      · exact hp9.2 q (List.mem_of_mem_drop hm)
  · have e1 := tot_parts ps y (by omega)
    have e2 : tot (ps.drop (y + 1)) = (ps[y + 1]).2.length + tot (ps.drop (y + 2)) := by rw [List.drop_eq_getElem_cons hy, tot_cons]
    rw [tot_append, tot_cons]
    simp
    omega
theorem block_add (a : Addr) (n : Nat) : (a.add n).block = a.block := by unfold Addr.add; split <;> rfl
theorem cells_alloc {w : World} {g k : Nat} {xs : List Value} (h : ∀ (j : Nat) (u : Value), xs[j]? = some u → w.cell? ((⟨g, k, none⟩ : Addr).add j) = some u) (hg : g < w.heap.size) (o : Obj) :
    ∀ (j : Nat) (u : Value), xs[j]? = some u → (w.alloc o).cell? ((⟨g, k, none⟩ : Addr).add j) = some u := fun j u hu => by
  rw [← h j u hu]
  exact World.cell?_of_block (w := w) (Below.heap_alloc w o _ (by rw [block_add]; exact hg))
theorem cells_grown {w w' : World} {g k : Nat} {xs : List Value} (h : ∀ (j : Nat) (u : Value), xs[j]? = some u → w.cell? ((⟨g, k, none⟩ : Addr).add j) = some u) (hg : g < w.heap.size) (hG : w.grownBy w' none) :
    ∀ (j : Nat) (u : Value), xs[j]? = some u → w'.cell? ((⟨g, k, none⟩ : Addr).add j) = some u := fun j u hu => by
  rw [← h j u hu]
  exact hG.cell_far _ (by rw [block_add]; exact hg) (by simp)
theorem drop_none {w : World} {a : Addr} {xs : List Value} {n m : Nat} (h : xs.length = n - m) (hn : n ≤ m) : ∀ (j : Nat) (u : Value), xs[j]? = some u → w.cell? (a.add j) = some u := by
  intro j u hu
  have : xs = [] := List.eq_nil_of_length_eq_zero (by omega)
  subst this
  simp at hu

/-- the first mark written anew -/
theorem own_set0 {w : World} {base g n cap : Nat} {ms : List (Int × Int)} (h : w.ownsRow base TM 2 (.slice (some ⟨g, 0, none⟩) n cap) n (mcells ms)) (hl : ms.length = n) (hn : 0 < n) (k x : Int) (hk : I64 k) (hx : I64 x) (hi : I64s ms) :
    ∃ u1 u2, w.cell? ⟨g, 0, none⟩ = some u1 ∧ w.cell? ⟨g, 1, none⟩ = some u2 ∧ w.frozen? ⟨g, 0, none⟩ = false ∧ w.frozen? ⟨g, 1, none⟩ = false ∧
      ∃ ms' : List (Int × Int), ((w.setCell ⟨g, 0, none⟩ (.int .i64 k)).setCell ⟨g, 1, none⟩ (.int .i64 x)).ownsRow base TM 2 (.slice (some ⟨g, 0, none⟩) n cap) ms'.length (mcells ms') ∧ I64s ms' ∧ ms'.length = n := by
  match ms, hl with
  | [], hl => simp at hl; omega
  | m :: r, hl =>
    have h1 := h.cellAt 0 (by omega)
    have h2 := h.cellAt 1 (by omega)
    have h3 := ((h.stored 0 (.int .i64 k)).1.stored 1 (.int .i64 x)).1
    refine ⟨_, _, h1, h2, h.frozenAt 0, h.frozenAt 1, (k, x) :: r, ?_, ?_, hl⟩
    · have : ((k, x) :: r).length = n := hl
      rw [this]
      exact h3
    · intro y hy
      rcases List.mem_cons.1 hy with rfl | hy
      · exact ⟨hk, hx⟩
      · exact hi y (by simp [hy])

/-- draws ahead are no matter -/
theorem grownBy_drewX {a b : World} {n : Nat} {row : Option Nat} (h : (a.drewN n).grownBy b row) : a.grownBy b row := ⟨h.os, h.tape, h.output, h.size, h.block⟩
theorem own_none {w w' : World} {base size n : Nat} {e : TypeId} {v : Value} {xs : List Value} (h : w.ownsRow base e size v n xs) (hg : w.grownBy w' none) : w'.ownsRow base e size v n xs := by
  refine h.kept hg ?_
  cases v.ownBlock with
  | none => exact .inl rfl
  | some g => exact .inr (by simp)
theorem I64s_two {k x l y : Int} (hk : I64 k) (hx : I64 x) (hl : I64 l) (hy : I64 y) : I64s [(k, x), (l, y)] := by
  intro m hm
  simp at hm
  rcases hm with rfl | rfl
  · exact ⟨hk, hx⟩
  · exact ⟨hl, hy⟩
theorem below_none {w w' : World} (hg : w.grownBy w' none) : Below w.heap.size w w' := ⟨hg.os, hg.tape, hg.output, hg.size, fun i hi => hg.block i hi (by simp)⟩
theorem news4 (W : World) (g : Nat) (hg : g = W.heap.size) (k x l y : Int) (T : TypeId) : ∀ (j : Nat) (u' : Value), (mcells [(k, x), (l, y)])[j]? = some u' → (W.alloc (.cells #[.int .i64 k, .int .i64 x, .int .i64 l, .int .i64 y] T)).cell? ((⟨g, 0, none⟩ : Addr).add j) = some u' := by
  subst hg
  exact World.news_of_block (cs := #[.int .i64 k, .int .i64 x, .int .i64 l, .int .i64 y]) (t := T) (fr := (0, 0)) (heap_alloc_new W _)
theorem RdMarks.kept {w w' : World} {v : Value} {ms : List (Int × Int)} (h : RdMarks w w.heap.size v ms) (hb : Below w.heap.size w w') : RdMarks w' w'.heap.size v ms := (h.below hb.block).mono hb.size
/-- a row of one mark, just laid -/
theorem RdMarks.one (w : World) (k x : Int) (T : TypeId) (hk : I64 k) (hx : I64 x) : RdMarks (w.alloc (.cells #[.int .i64 k, .int .i64 x] T)) (w.heap.size + 1) (.slice (some ⟨w.heap.size, 0, none⟩) 1 1) [(k, x)] := by
  refine ⟨_, 1, rfl, Nat.le_refl _, by unfold maxLen; omega, I64s_one hk hx, fun j hj => ⟨w.heap.size, 0, rfl, by omega, ?_, ?_⟩⟩
  all_goals
    have : j = 0 := by simpa using hj
    subst this
    rw [cell_of_row _ _ _ _ _ (0, 0) (heap_alloc_new w _)]
    rfl
theorem own_apart {v : Value} {row : Option Nat} {s : Nat} (h : ∀ k, v.ownBlock = some k → k < s) (hr : ∀ k, row = some k → s ≤ k) : v.ownBlock = none ∨ v.ownBlock ≠ row := by
  cases hv : v.ownBlock with
  | none => exact .inl rfl
  | some g => right; intro e; have := hr g e.symm; have := h g hv; omega
theorem own_apart' {v : Value} {row : Option Nat} {s : Nat} (h : ∀ k, v.ownBlock = some k → s ≤ k) (hr : ∀ k, row = some k → k < s) : v.ownBlock = none ∨ v.ownBlock ≠ row := by
  cases hv : v.ownBlock with
  | none => exact .inl rfl
  | some g => right; intro e; have := hr g e.symm; have := h g hv; omega
end Go.Proofs.Ythiabicleedleaa
/- Contracts of the reference's truth of terms: a part in a world, the table of a term. -/
namespace Go.Proofs.Ythiabicleedleaa
open Go.RowKit
/-- the reference tells of this term, wherever its marks stand, whether it holds -/
def HoldAt (f : Nat) (t : Tm) : Prop := ∀ (W : Nat) (B : Nat) (v : Value) (w : World), W < 16 → RdMarks w B v t.post → B ≤ w.heap.size →
  Calls Try.prog f #[v, .int .i64 W] w fun e w' => e = .returned (.bool (holds W t)) ∧ Below w.heap.size w w'
theorem heads_small {W : Nat} (h : W < 16) : heads W < 16 := Nat.lt_of_le_of_lt (heads_le W) h
theorem holds_leaf0 (W : Nat) (x : Int) : holds W (.leaf 0 x) = W.testBit x.toNat := by rw [holds, if_pos rfl]
theorem holds_leaf1 (W : Nat) (x : Int) : holds W (.leaf 1 x) = decide (x ≤ (heads W : Int)) := by rw [holds, if_neg (by decide)]
theorem below_undrewS {B : Nat} {w w' : World} (h : Below B w.drew w') : Below B w w' := ⟨h.os, h.tape, h.output, h.size, h.block⟩
theorem below_undrewN {B : Nat} {w w' : World} {n : Nat} (h : Below B (w.drewN n) w') : Below B w w' := ⟨h.os, h.tape, h.output, h.size, h.block⟩
theorem tb_of {W : Nat} (hW : W < 16) : ((W : Int) % 2 == 1) = W.testBit 0 ∧ ((W : Int) / 2 % 2 == 1) = W.testBit 1 ∧ ((W : Int) / 4 % 2 == 1) = W.testBit 2 ∧ ((W : Int) / 8 % 2 == 1) = W.testBit 3 := by
  have h : ∀ V : Fin 16, ((V.val : Int) % 2 == 1) = V.val.testBit 0 ∧ ((V.val : Int) / 2 % 2 == 1) = V.val.testBit 1 ∧ ((V.val : Int) / 4 % 2 == 1) = V.val.testBit 2 ∧ ((V.val : Int) / 8 % 2 == 1) = V.val.testBit 3 := by decide +kernel
  exact h ⟨W, hW⟩
attribute [local irreducible] holds heads
set_option maxRecDepth 100000 in
set_option maxHeartbeats 1000000 in
theorem l3Holds_leaf {p : Int} (hp : p ≤ 4) (k x : Int) (ht : (Tm.leaf k x).ok p) : HoldAt 65 (.leaf k x) := by
  intro W B v w hW hr hB
  obtain ⟨b, off, cap, rfl, hl, hm, hb⟩ := hr.form (by simp [Tm.post])
  obtain ⟨hc1, hc2⟩ := hr.at (j := 0) (m := (k, x)) (by simp [Tm.post]) rfl
  rw [Nat.zero_mul, Nat.add_zero] at hc1 hc2
  dsimp only at hc1 hc2
  simp only [Tm.post, List.length_singleton] at hl
  have hN : (Tm.leaf k x).post.length = 1 := rfl
  rw [hN]
  clear hN hr
  unfold maxLen at hm
  simp only [Tm.ok] at ht
  rcases ht with ⟨rfl, h0, h1⟩ | ⟨rfl, h0, h1⟩
  · have hx : x = 0 ∨ x = 1 ∨ x = 2 ∨ x = 3 := by omega
    clear h0 h1
    rw [holds_leaf0]
    rcases hx with rfl | rfl | rfl | rfl
    all_goals
      have Htb := Lib.hid (tb_of hW)
      go_enter Try.func65, Try.ntmps65
      go_wp2
      go_ret
      exact ⟨by first | exact ret_bool Htb.out.1 | exact ret_bool Htb.out.2.1 | exact ret_bool Htb.out.2.2.1 | exact ret_bool Htb.out.2.2.2, Below.refl _ _⟩
  · rw [holds_leaf1]
    have hhd := heads_small hW
    have Hd := Lib.hid (specHeads W (by omega))
    generalize heads W = H at *
    go_enter Try.func65, Try.ntmps65
    go_wp2_with fail
    go_region_held3 (fun w' => w'.cell? ⟨b, off + 1, none⟩ = some (.int .i64 x))
      (first | go_keep | assumption)
      (first
        | (go_at_call 58
           (with_reducible refine (Hd.out _).mono ?_)
           rintro e w' ⟨rfl, rfl⟩)
        | fail)
    go_wp2
    go_ret
    exact ⟨by first | rfl | exact ret_bool (decide_eq_decide.2 (by omega)), by first | exact Below.refl _ _ | exact below_undrewS (Below.refl _ _) | exact below_undrewN (Below.refl _ _) | exact ⟨rfl, rfl, rfl, Nat.le_refl _, fun _ _ => rfl⟩⟩
set_option maxRecDepth 100000 in
set_option maxHeartbeats 1000000 in
theorem l3Holds_un {p : Int} (t : Tm) (_ht : t.ok p) (hlen : t.post.length ≤ 14) (ih : HoldAt 65 t) : HoldAt 65 (.un t) := by
  intro W B v w hW hr hB
  have hpl : (Tm.un t).post.length = t.post.length + 1 := by simp [Tm.post]
  obtain ⟨b, off, cap, rfl, hl, hm, hb⟩ := hr.form (by omega)
  obtain ⟨hc1, hc2⟩ := hr.at (j := t.post.length) (m := (2, 0)) (by omega) (by simp [Tm.post, List.getD_eq_getElem?_getD])
  have hra := hr.cut (pre := []) (sub := t.post) (suf := [(2, 0)]) (i := 0) (by simp [Tm.post]) rfl rfl
  rw [Nat.zero_mul, Nat.add_zero, Nat.sub_zero] at hra
  have hpos := post_pos t
  dsimp only at hc1 hc2
  rw [holds_un]
  rw [hpl] at *
  clear hpl hr
  unfold maxLen at hm
  have Ih := Lib.hid (fun w h hB => ih W B (.slice (some ⟨b, off, none⟩) t.post.length cap) w hW h hB)
  clear ih
  have Hra := Lib.hid hra; clear hra
  generalize holds W t = o at *
  generalize t.post.length = L at *
  obtain ⟨N, hN⟩ : ∃ N, N = L + 1 := ⟨_, rfl⟩
  rw [← hN] at hl ⊢
  have hi1 : IntKind.i64.wrap ((N : Int) - 1) = (L : Int) := by rw [IntWalk.i64_in _ (by omega)]; omega
  have hi2 : (0 : Int) ≤ (L : Int) := by omega
  have hi3 : (L : Int) < (N : Int) := by omega
  have hi4 : L < N := by omega
  have hi5 : (L : Int) ≤ (cap : Int) := by omega
  have hi6 : L ≤ cap := by omega
  have hi7 : ¬ cap = 0 := by omega
  have HN := Lib.hid hN; clear hN
  go_enter Try.func65, Try.ntmps65
  go_wp2_with fail
  refine (Ih.out _ Hra.out hB).mono ?_
  rintro e w' ⟨rfl, hb1⟩
  have Hb := Lib.hid hb1; clear hb1
  go_wp2
  go_ret
  exact ⟨rfl, Hb.out⟩
set_option maxRecDepth 100000 in
set_option maxHeartbeats 2000000 in
theorem l3Holds_bin {p : Int} (k : Int) (t u : Tm) (hk : 3 ≤ k ∧ k ≤ 5) (hu : u.ok p) (hlen : t.post.length + u.post.length ≤ 14) (iht : HoldAt 65 t) (ihu : HoldAt 65 u) : HoldAt 65 (.bin k t u) := by
  intro W B v w hW hr hB
  have hpl : (Tm.bin k t u).post.length = t.post.length + u.post.length + 1 := by simp [Tm.post]; omega
  obtain ⟨b, off, cap, rfl, hl, hm, hb⟩ := hr.form (by omega)
  have hpost : (Tm.bin k t u).post = t.post ++ u.post ++ [(k, 0)] := rfl
  obtain ⟨hc1, hc2⟩ := hr.at (j := t.post.length + u.post.length) (m := (k, 0)) (by omega) (by
    rw [hpost, List.getD_eq_getElem?_getD, List.getElem?_append_right (by simp), List.length_append, Nat.sub_self]; rfl)
  obtain ⟨S, hS⟩ : ∃ S, S = t.post.length + u.post.length := ⟨_, rfl⟩
  have hra := hr.cut (pre := []) (sub := t.post) (suf := u.post ++ [(k, 0)]) (i := 0) (by rw [hpost]; simp) rfl rfl
  have hrb := hr.cut (pre := t.post) (sub := u.post) (suf := [(k, 0)]) (i := t.post.length) (m := S - t.post.length) (by rw [hpost]) rfl (by omega)
  rw [Nat.zero_mul, Nat.add_zero, Nat.sub_zero] at hra
  have hpos := post_pos t
  have hpos2 := post_pos u
  dsimp only at hc1 hc2
  obtain ⟨E, hE⟩ : ∃ E : Int, (t.post.length : Int) + u.post.length - 1 = E := ⟨_, rfl⟩
  have hst := fun W' (h : RdMarks W' B (.slice (some ⟨b, off, none⟩) (Tm.bin k t u).post.length cap) (Tm.bin k t u).post) => specStarts (Tm.bin k t u).post t.post.length u.post.length (nd u) E hE (nd_zero u) (nd_all hu) (fun j hj => by
    have h1 := nd_step hu hj
    rw [hpost, List.getD_eq_getElem?_getD, List.getElem?_append_left (by simp only [List.length_append]; omega), List.getElem?_append_right (by omega), Nat.add_sub_cancel_left, ← List.getD_eq_getElem?_getD]
    exact h1) (by omega) (by omega) B _ W' h
  have Hha := Lib.hid (fun w' h hB => iht W B (.slice (some ⟨b, off, none⟩) t.post.length cap) w' hW h hB)
  have Hhb := Lib.hid (fun w' h hB => ihu W B (.slice (some ⟨b, off + t.post.length * 2, none⟩) (S - t.post.length) (cap - t.post.length)) w' hW h hB)
  clear iht ihu hpost
  have Hh : Hid (holds W (.bin k t u) = if k = 3 then holds W t && holds W u else if k = 4 then holds W t || holds W u else holds W t == holds W u) := by unfold Hid; rw [holds]
  generalize holds W (.bin k t u) = o at *
  generalize holds W t = oa at *
  generalize holds W u = ob at *
  have Hr := Lib.hid hr; clear hr
  rw [hpl] at *
  clear hpl
  unfold maxLen at hm
  have Hst := Lib.hid hst; clear hst
  have Hra := Lib.hid hra; clear hra
  have Hrb := Lib.hid hrb; clear hrb
  rw [← hS] at hl hc1 hc2 Hst Hr hlen ⊢
  generalize t.post.length = LA at *
  generalize u.post.length = LB at *
  obtain ⟨N, hN⟩ : ∃ N, N = S + 1 := ⟨_, rfl⟩
  rw [← hN] at hl Hst Hr ⊢
  have hi1 : IntKind.i64.wrap ((N : Int) - 1) = (S : Int) := by rw [IntWalk.i64_in _ (by omega)]; omega
  have hj1 : IntKind.i64.wrap ((S : Int) - 1) = E := by rw [IntWalk.i64_in _ (by omega)]; omega
  have hi2 : (0 : Int) ≤ (S : Int) := by omega
  have hi3 : (S : Int) < (N : Int) := by omega
  have hi4 : S < N := by omega
  have hi5 : (S : Int) ≤ (cap : Int) := by omega
  have hi6 : S ≤ cap := by omega
  have hi7 : ¬ cap = 0 := by omega
  have hi8 : ¬ cap = LA := by omega
  have hi9 : (0 : Int) ≤ (LA : Int) := by omega
  have hia : (LA : Int) ≤ (S : Int) := by omega
  have hib : LA ≤ S := by omega
  have hic : (LA : Int) ≤ (cap : Int) := by omega
  have hid : LA ≤ cap := by omega
  have HN := Lib.hid hN; clear hN
  have HS := Lib.hid hS; clear hS
  have HE := Lib.hid hE; clear hE
  clear hpos hpos2 hlen hl
  have hk0 : (k == 0) = false := by rw [beq_eq_false_iff_ne]; omega
  have hk1 : (k == 1) = false := by rw [beq_eq_false_iff_ne]; omega
  have hk2 : (k == 2) = false := by rw [beq_eq_false_iff_ne]; omega
  go_enter Try.func65, Try.ntmps65
  go_wp2_with fail
  refine (Hst.out _ Hr.out).mono ?_
  rintro e w' ⟨rfl, rfl⟩
  go_wp2_with fail
  refine (Hha.out _ Hra.out hB).mono ?_
  rintro e w5 ⟨rfl, hb5⟩
  have Hrb5 := Lib.hid (Hrb.out.below (fun q hq => hb5.block q (by omega)))
  have hB5 : B ≤ w5.heap.size := by have := hb5.size; omega
  have Hb5 := Lib.hid hb5
  have hc15 := (hb5.cell (p := ⟨b, off + S * 2, none⟩) (show b < _ by omega)).trans hc1
  clear hb5 hc1 hc2
  go_wp2_with fail
  refine (Hhb.out _ Hrb5.out hB5).mono ?_
  rintro e w6 ⟨rfl, hb6⟩
  have hc16 := (hb6.cell (p := ⟨b, off + S * 2, none⟩) (show b < _ by omega)).trans hc15
  have Hb6 := Lib.hid (Hb5.out.trans (hb6.mono Hb5.out.size))
  clear hb6 hc15
  have hk' : k = 3 ∨ k = 4 ∨ k = 5 := by omega
  clear hk hk0 hk1 hk2
  rcases hk' with rfl | rfl | rfl
  all_goals
    have Ho := Hh.out
    simp only [if_true, show ¬ (4 : Int) = 3 by decide, show ¬ (5 : Int) = 3 by decide, show ¬ (5 : Int) = 4 by decide, if_false] at Ho
    subst Ho
    cases oa <;> cases ob
    all_goals
      go_wp2
      go_ret
      exact ⟨rfl, Hb6.out⟩
theorem specHolds {p : Int} (hp : p ≤ 4) : ∀ t : Tm, t.ok p → t.post.length ≤ 15 → HoldAt 65 t
  | .leaf k x, h, _ => l3Holds_leaf hp k x h
  | .un t, h, hl => by
    have h' : t.ok p := by simpa only [Tm.ok] using h
    have hl' : t.post.length ≤ 14 := by simp [Tm.post] at hl; omega
    exact l3Holds_un t h' hl' (specHolds hp t h' (by omega))
  | .bin k a b, h, hl => by
    simp only [Tm.ok] at h
    obtain ⟨h3, h5, ha, hb⟩ := h
    have hl' : a.post.length + b.post.length ≤ 14 := by simp [Tm.post] at hl; omega
    exact l3Holds_bin k a b ⟨h3, h5⟩ hb hl' (specHolds hp a ha (by omega)) (specHolds hp b hb (by omega))
end Go.Proofs.Ythiabicleedleaa

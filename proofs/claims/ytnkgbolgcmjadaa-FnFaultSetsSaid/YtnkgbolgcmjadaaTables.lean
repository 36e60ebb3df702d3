/- Contracts of chapter 1's functions: tables and lists of worlds, in the program and in the reference model. -/
import Derived.Test.YtnkgbolgcmjadaaPeople
namespace Go.Proofs.Ytnkgbolgcmjadaa
open Go.RowKit

/-- the worlds of a table; none for what is no table -/
def wlp (p t : Int) : List Nat := if tOk p t = true then wl t.toNat (2 ^ p.toNat) else []
theorem wlp_no {p t : Int} (h : tOk p t = false) : wlp p t = [] := by simp [wlp, h]
theorem wlp_yes {p t : Int} (h : tOk p t = true) : wlp p t = wl t.toNat (2 ^ p.toNat) := by simp [wlp, h]
theorem wl_all_le (T N : Nat) : ∀ z ∈ wl T N, z < N := fun _ hz => (wl_mem.1 hz).1



/-- the table of some worlds; -1 if one of them is none -/
def allW (p : Int) (zs : List Int) : Bool := zs.all fun z => wOk p z
def tow (p : Int) (zs : List Int) : Int := if pOk p && allW p zs then (tabOf (zs.map Int.toNat) : Int) else -1
theorem tow_bad {p : Int} {zs : List Int} {k : Nat} (hk : k < zs.length) (h : wOk p (zs.getD k 0) = false) : tow p zs = -1 := by
  have hf : allW p zs = false := by
    rw [allW, List.all_eq_false]
    refine ⟨zs.getD k 0, ?_, by rw [h]; decide⟩
    have e : zs.getD k 0 = zs[k] := by simp [List.getD, hk]
    rw [e]; exact List.getElem_mem hk
  simp [tow, hf]
theorem tow_no {p : Int} {zs : List Int} (h : pOk p = false) : tow p zs = -1 := by simp [tow, h]
theorem tow_yes {p : Int} {zs : List Int} (h : pOk p = true) (h' : ∀ j, j < zs.length → wOk p (zs.getD j 0) = true) : tow p zs = (tabOf (zs.map Int.toNat) : Int) := by
  have : allW p zs = true := by
    rw [allW, List.all_eq_true]
    intro z hz
    obtain ⟨j, hj, rfl⟩ := List.getElem_of_mem hz
    have := h' j hj
    rwa [show zs.getD j 0 = zs[j] from by simp [List.getD, hj]] at this
  simp [tow, h, this]
/-- the table of the first k worlds -/
def tabK (zs : List Int) (k : Nat) : Nat := tabOf ((zs.take k).map Int.toNat)
theorem tabK_succ {zs : List Int} {k : Nat} (hk : k < zs.length) : tabK zs (k + 1) = tabK zs k ||| 1 <<< (zs.getD k 0).toNat := by
  unfold tabK
  rw [List.take_succ_eq_append_getElem hk, List.map_append]
  have e : zs.getD k 0 = zs[k] := by simp [List.getD, hk]
  rw [e]
  exact tabOf_snoc _ _
theorem tabK_lt {p : Int} {zs : List Int} {k : Nat} (h : ∀ j, j < k → wOk p (zs.getD j 0) = true) (hk : k ≤ zs.length) : tabK zs k < 65536 := by
  refine tabOf_lt _ 16 fun i hi => ?_
  obtain ⟨z, hz, rfl⟩ := List.mem_map.1 hi
  obtain ⟨j, hj, rfl⟩ := List.getElem_of_mem hz
  have hj' : j < k := by simp at hj; omega
  have := h j hj'
  have e : zs.getD j 0 = (zs.take k)[j] := by simp [List.getD, show j < zs.length by omega]
  rw [e] at this
  have := wOk_lt this
  omega
theorem or_shl {t x : Nat} (ht : t < 65536) (hx : x < 16) : bits BinOp.or IntKind.i64 (t : Int) (wrap64 (2 ^ min x 64)) = ((t ||| 1 <<< x : Nat) : Int) := by
  have e : (2 : Int) ^ min x 64 = ((1 <<< x : Nat) : Int) := by
    rw [Nat.min_eq_left (by omega), Nat.one_shiftLeft]; simp
  have hl : 1 <<< x ≤ 65536 := by
    rw [Nat.one_shiftLeft]; exact Nat.le_trans (Nat.pow_le_pow_right (by decide) (show x ≤ 16 by omega)) (by decide)
  rw [e]
  generalize 1 <<< x = y at *
  have hw : wrap64 (y : Int) = (y : Int) := by unfold wrap64; omega
  rw [hw, bits_or_nat _ _ (by omega) (by omega)]

theorem or_shlN {t x N : Nat} (ht : t < 2 ^ N) (hN : N ≤ 16) (hx : x < N) : bits BinOp.or IntKind.i64 (t : Int) (wrap64 (2 ^ min x 64)) = ((t ||| 1 <<< x : Nat) : Int) :=
  or_shl (Nat.lt_of_lt_of_le ht (by exact Nat.pow_le_pow_right (by decide) hN)) (by omega)
theorem below_drewN {B : Nat} {a w : World} (h : Below B a w) (n : Nat) : Below B a (w.drewN n) := h.trans ⟨rfl, rfl, rfl, Nat.le_refl _, fun _ _ => rfl⟩


set_option maxHeartbeats 400000 in
theorem specIn (n a b : Int) (w : World) :
    Calls Try.prog 42 #[.int .i64 n, .int .i64 a, .int .i64 b] w fun e w' => e = .returned (.bool (decide (a ≤ n ∧ n ≤ b))) ∧ w = w' := by
  by_cases h : a ≤ n
  all_goals
    go_enter Try.func42, Try.ntmps42
    go_wp2
    go_ret
    exact ⟨ret_bool (by rw [Bool.eq_iff_iff]; simp; omega), rfl⟩


/-! ### the opposite table -/
/-- the worlds of a table below n, each turned round -/
def turned (T n : Nat) (k : Nat) : Nat := tabOf ((wl T k).map fun i => n - 1 - i)
theorem turned_lt {T n k : Nat} (_hk : k ≤ n) (hn : 0 < n) : turned T n k < 2 ^ n :=
  tabOf_lt _ _ fun i hi => by obtain ⟨j, hj, rfl⟩ := List.mem_map.1 hi; omega
theorem turned_succ (T n k : Nat) : turned T n (k + 1) = if T.testBit k then turned T n k ||| 1 <<< (n - 1 - k) else turned T n k := by
  unfold turned
  rw [wl_succ]
  split
  · rw [List.map_append]; exact tabOf_snoc _ _
  · simp
def opt (p t : Int) : Int := if tOk p t = true then (turned t.toNat (2 ^ p.toNat) (2 ^ p.toNat) : Int) else -1

theorem or_turn {T N k : Nat} (hk : k < N) (hN : N ≤ 16) :
    bits BinOp.or IntKind.i64 (turned T N k : Int) (wrap64 (((T : Int) / 2 ^ k).tmod 2 * 2 ^ (N - 1 - k))) = (turned T N (k + 1) : Int) := by
  have ht : turned T N k < 65536 := Nat.lt_of_lt_of_le (turned_lt (Nat.le_of_lt hk) (by omega)) (by exact Nat.pow_le_pow_right (by decide) hN)
  have hl : 1 <<< (N - 1 - k) ≤ 65536 := by
    rw [Nat.one_shiftLeft]; exact Nat.le_trans (Nat.pow_le_pow_right (by decide) (show N - 1 - k ≤ 16 by omega)) (by decide)
  have e : (2 : Int) ^ (N - 1 - k) = ((1 <<< (N - 1 - k) : Nat) : Int) := by rw [Nat.one_shiftLeft]; simp
  rw [tmod_two_val, turned_succ, e]
  generalize 1 <<< (N - 1 - k) = y at *
  have hw : wrap64 (y : Int) = (y : Int) := by unfold wrap64; omega
  split
  · rw [Int.one_mul, hw, bits_or_nat _ _ (by omega) (by omega)]
  · rw [Int.zero_mul]
    have := bits_or_nat (turned T N k) 0 (by omega) (by decide)
    rw [show wrap64 0 = ((0 : Nat) : Int) from by unfold wrap64; decide, this, Nat.or_zero]



theorem two_pow_N {p : Int} (h1 : 1 ≤ p) (h2 : p ≤ 4) : 2 ≤ 2 ^ p.toNat ∧ 2 ^ p.toNat ≤ 16 := by
  rcases p_cases h1 h2 with rfl | rfl | rfl | rfl <;> decide
theorem opt_no {p t : Int} (h : tOk p t = false) : opt p t = -1 := by simp [opt, h]
theorem opt_yes {p : Int} {T : Nat} (h : tOk p T = true) : opt p T = (turned T (2 ^ p.toNat) (2 ^ p.toNat) : Int) := by simp [opt, h]



end Go.Proofs.Ytnkgbolgcmjadaa

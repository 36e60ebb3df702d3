/- Contracts over rows of marks: who is read, and the laws' own helpers. -/
import Derived.Test.YtobbbmcppmohoaaMarksS
import Derived.Test.YtobbbmcppmohoaaTables
import Derived.Test.YtobbbmcppmohoaaHelpers
import Derived.Deep.RegionHeld3
import Derived.Deep.RegionWith
import Derived.Deep.DeepCutAuto
namespace Go.Proofs.Ytobbbmcppmohoaa
open Go.RowKit

/-! ### who is read -/
def rdStep (n : Nat) (m : Int × Int) : Nat := if m.1 = 0 then n ||| 1 <<< m.2.toNat else n
def readN (ms : List (Int × Int)) : Nat := ms.foldl rdStep 0
theorem readN_snoc (ms : List (Int × Int)) (m : Int × Int) : readN (ms ++ [m]) = if m.1 = 0 then readN ms ||| 1 <<< m.2.toNat else readN ms := by
  unfold readN; rw [List.foldl_append]; rfl
theorem readN_succ {ms : List (Int × Int)} {k : Nat} (h : k < ms.length) : readN (ms.take (k + 1)) = if (ms.getD k (0, 0)).1 = 0 then readN (ms.take k) ||| 1 <<< (ms.getD k (0, 0)).2.toNat else readN (ms.take k) := by
  rw [take_snoc (0, 0) ms k h, readN_snoc]
theorem stepS_mkOk {p : Int} {s s' : List Tm} {m : Int × Int} (h : stepS p s m = some s') : mkOk p m.1 m.2 = true := by
  cases hm : mkOk p m.1 m.2 with
  | true => rfl
  | false => rw [step_no1 hm] at h; cases h
theorem runS_mkOk {p : Int} : ∀ {ms : List (Int × Int)} {s s' : List Tm}, runS p ms s = some s' → ∀ m ∈ ms, mkOk p m.1 m.2 = true
  | [], _, _, _ => by simp
  | m :: r, s, s', h => by
    cases h1 : stepS p s m with
    | none => simp [runS, h1] at h
    | some s1 =>
      have h' : runS p r s1 = some s' := by simpa [runS, h1] using h
      intro x hx
      rcases List.mem_cons.1 hx with rfl | hx
      · exact stepS_mkOk h1
      · exact runS_mkOk h' x hx
theorem termOk_mkOk {p : Int} {ms : List (Int × Int)} (h : termOk p ms = true) : ∀ m ∈ ms, mkOk p m.1 m.2 = true := by
  obtain ⟨_, _, t, ht, rfl⟩ := termOk_iff.1 h
  exact runS_mkOk (runS_tm t [] ht)
theorem termOk_get {p : Int} {ms : List (Int × Int)} (h : termOk p ms = true) {k : Nat} (hk : k < ms.length) : mkOk p (ms.getD k (0, 0)).1 (ms.getD k (0, 0)).2 = true := by
  have : ms.getD k (0, 0) = ms[k] := by simp [List.getD, hk]
  rw [this]; exact termOk_mkOk h _ (List.getElem_mem hk)
theorem readN_lt {p : Int} : ∀ {ms : List (Int × Int)}, 1 ≤ p → p ≤ 4 → (∀ m ∈ ms, mkOk p m.1 m.2 = true) → readN ms < 2 ^ p.toNat := by
  intro ms h1 h4 h
  have key : ∀ (l : List (Int × Int)) (n : Nat), n < 2 ^ p.toNat → (∀ m ∈ l, mkOk p m.1 m.2 = true) → l.foldl rdStep n < 2 ^ p.toNat := by
    intro l
    induction l with
    | nil => intro n hn _; exact hn
    | cons m r ih =>
      intro n hn hl
      refine ih _ ?_ (fun x hx => hl x (by simp [hx]))
      unfold rdStep
      split
      · rename_i hm
        refine Nat.or_lt_two_pow hn ?_
        have := hl m (by simp)
        unfold mkOk at this
        rw [decide_eq_true_eq] at this
        rw [Nat.one_shiftLeft]
        exact Nat.pow_lt_pow_right (by decide) (by omega)
      · exact hn
  exact key ms 0 (Nat.two_pow_pos _) h
theorem readN_lt16 {p : Int} {ms : List (Int × Int)} (h : termOk p ms = true) (k : Nat) : readN (ms.take k) < 16 := by
  have hp := (termOk_iff.1 h).1
  have h1 := readN_lt (ms := ms.take k) hp.1 hp.2 (fun m hm => termOk_mkOk h m (List.mem_of_mem_take hm))
  have h2 : 2 ^ p.toNat ≤ 2 ^ 4 := Nat.pow_le_pow_right (by decide) (by omega)
  omega
def readV (p : Int) (ms : List (Int × Int)) : Int := if termOk p ms = true then readN ms else -1
theorem readV_yes {p : Int} {ms : List (Int × Int)} (h : termOk p ms = true) : readV p ms = readN ms := by simp [readV, h]
theorem readV_no {p : Int} {ms : List (Int × Int)} (h : termOk p ms = false) : readV p ms = -1 := by simp [readV, h]
theorem readN_nil : readN [] = 0 := rfl
attribute [local irreducible] readN



/-! ### the laws' helpers -/
theorem marks_eq_of {xs ys : List (Int × Int)} (hl : xs.length = ys.length) (h : ∀ j, j < xs.length → xs.getD j (0, 0) = ys.getD j (0, 0)) : xs = ys := by
  refine List.ext_getElem hl fun j h1 h2 => ?_
  have := h j h1
  simpa [List.getD, h1, h2] using this


set_option maxHeartbeats 400000 in
theorem eqMark_yes (k x : Int) (w : World) :
    Calls Try.prog 94 #[.agg #[.int .i64 k, .int .i64 x], .agg #[.int .i64 k, .int .i64 x]] w fun e w' => e = .returned (.bool true) ∧ Below w.heap.size w w' := by
  go_enter Try.func94, Try.ntmps94
  go_wp2
  go_ret
  exact ⟨rfl, ((Below.refl _ _).alloc (Nat.le_refl _) _).alloc (by simp) _⟩
set_option maxHeartbeats 400000 in
theorem eqMark_no (k x l y : Int) (hne : Hid (¬ (k = l ∧ x = y))) (w : World) :
    Calls Try.prog 94 #[.agg #[.int .i64 k, .int .i64 x], .agg #[.int .i64 l, .int .i64 y]] w fun e w' => e = .returned (.bool false) ∧ Below w.heap.size w w' := by
  by_cases h1 : k = l
  · subst h1
    have h2 : (x != y) = true := by rw [bne_iff_ne]; intro e; exact hne.out ⟨rfl, e⟩
    go_enter Try.func94, Try.ntmps94
    go_wp2
    go_ret
    exact ⟨rfl, ((Below.refl _ _).alloc (Nat.le_refl _) _).alloc (by simp) _⟩
  · have h2 : (k != l) = true := by rw [bne_iff_ne]; exact h1
    clear h1
    go_enter Try.func94, Try.ntmps94
    go_wp2
    go_ret
    exact ⟨rfl, ((Below.refl _ _).alloc (Nat.le_refl _) _).alloc (by simp) _⟩

set_option maxHeartbeats 400000 in
theorem szMarkS (ao : Option Addr) (n cap : Nat) (hn : (n : Int) ≤ 9223372036854775807) (w : World) :
    Calls Try.prog 79 #[.slice ao n cap, .int .i64 1048576] w fun e w' => e = .returned (.int .i64 (if n ≤ 1048576 then 1048576 - (n : Int) else -1)) ∧ w = w' := by
  by_cases h : n ≤ 1048576
  · have h' : ¬ 1048576 - (n : Int) < 0 := by omega
    go_enter Try.func79, Try.ntmps79
    go_wp2
    go_ret
    exact ⟨ret_int (by first | rfl | rw [if_pos h]), rfl⟩
  · have h' : 1048576 - (n : Int) < 0 := by omega
    go_enter Try.func79, Try.ntmps79
    go_wp2
    go_ret
    exact ⟨ret_int (by first | rfl | rw [if_neg h]), rfl⟩
end Go.Proofs.Ytobbbmcppmohoaa

/- Contract of slices.Clone at rows of marks: a new row of the same marks. -/
import Derived.Test.YtbcmepcjhobemaaConcat
namespace Go.Proofs.Ytbcmepcjhobemaa
open Go.RowKit Go.Joins
theorem below_grownC {B : Nat} {w w1 w2 : World} {row : Option Nat} (h : Below B w w1) (hg : w1.grownBy w2 row) (hB : B ≤ w1.heap.size) (hr : ∀ k, row = some k → B ≤ k) : Below B w w2 :=
  h.trans ⟨hg.os, hg.tape, hg.output, hg.size, fun i hi => hg.block i (by omega) (fun e => by have := hr i e.symm; omega)⟩
theorem mcells_nilI : mcells [] = [] := rfl
set_option maxRecDepth 100000 in
set_option maxHeartbeats 1000000 in
theorem implClone (ms : List (Int × Int)) (B : Nat) (u : Value) (w : World) (hr : RdMarks w B u ms) (hB : B ≤ w.heap.size) (hl : ms.length ≤ 1000) :
    Calls Try.prog 55 #[u] w (RowOut ms w) := by
  obtain ⟨im, hmi, hmz0, hmz1, hmz2⟩ := info_parts Try.infoM
  have Hr := Lib.hid hr
  obtain ⟨ao, cap, rfl, hlc, hcm, _, hc⟩ := hr
  cases ao with
  | none =>
    have h0 : ms = [] := by
      cases ms with
      | nil => rfl
      | cons m r =>
        obtain ⟨_, _, he, _⟩ := hc 0 (by simp)
        cases he
    subst h0
    clear Hr hc hmi hmz0 hmz1 hmz2
    have qT : ∀ (w : World), (binOp .eql 23 (.slice none 0 cap) (.slice none 0 0)).run Try.prog w = .ok (.bool true) w := fun w => Lib.run_eql_slice_nil w _ _ none _ _ _ _ Try.underlying23
    go_enter Try.func55, Try.ntmps55
    go_wp2
    go_ret
    exact ⟨_, rfl, by rw [mcells_nilI]; exact World.ownsRow_nil _ _ _ _, Below.refl _ _⟩
  | some a =>
    have hb1 : Below w.heap.size w (w.alloc (.cells #[] TM)) := (Below.refl _ _).alloc (Nat.le_refl _) _
    have hmade : (w.alloc (.cells #[] TM)).ownsRow w.heap.size TM 2 (.slice (some ⟨w.heap.size, 0, none⟩) 0 0) 0 [] := World.ownsRow_made _ _ 0 (Nat.le_refl _) (by unfold maxLen; omega) rfl
    obtain ⟨v4, w4, hrun, hown4, hgr4, _⟩ := append_rd hmi hmz0 hmz1 hmz2 hmade (Hr.out.below (w' := w.alloc (.cells #[] TM)) (fun q hq => hb1.block q (by omega))) (by omega) (by simp)
    have hb4 := below_grownC hb1 hgr4 (by simp) (fun q hq => by cases hq; exact Nat.le_refl _)
    rw [Nat.zero_add, List.nil_append] at hown4
    have Hrun := Lib.hid hrun
    have Hown4 := Lib.hid hown4
    have Hb4 := Lib.hid hb4
    clear hrun hown4 hb4 hgr4 hmade hb1 hc Hr hmi hmz0 hmz1 hmz2
    have qT : ∀ (w : World), (binOp .eql 23 (.slice (some a) ms.length cap) (.slice none 0 0)).run Try.prog w = .ok (.bool false) w := fun w => Lib.run_eql_slice_nil w _ _ (some a) _ _ _ _ Try.underlying23
    go_enter Try.func55, Try.ntmps55
    go_wp2_with (first
      | (at_builtin; refine Lib.wpList_append_run _ rfl _ _ _ _ rfl _ _ rfl rfl _ _ Hrun.out ?_)
      | fail)
    go_wp2
    go_ret
    exact ⟨_, rfl, Hown4.out, Hb4.out⟩
end Go.Proofs.Ytbcmepcjhobemaa

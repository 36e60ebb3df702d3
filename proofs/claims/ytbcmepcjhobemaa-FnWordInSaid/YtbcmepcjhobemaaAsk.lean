/- Contracts of the reference's questions. -/
import Derived.Test.YtbcmepcjhobemaaAskM
import Derived.Test.YtbcmepcjhobemaaConcat
namespace Go.Proofs.Ytbcmepcjhobemaa
open Go.RowKit Go.Joins
theorem mcells_nil7 : mcells [] = [] := rfl
theorem mcells_app7 (xs ys : List (Int × Int)) : mcells (xs ++ ys) = mcells xs ++ mcells ys := mcells_append xs ys
theorem ctermL_eq (k : Int) (ms : List (Int × Int)) : ctermL (k, ms) = [(0, k)] ++ ms ++ [(5, 0)] := rfl
theorem inOk_decide (p k : Int) : inOk p k = decide (0 ≤ k ∧ k ≤ p - 1) := by unfold inOk; rw [decide_eq_decide]; omega
theorem ans_if {p k x : Int} {ms : List (Int × Int)} (h1 : termOk p ms = true) (h2 : wOk p x = true) (h3 : inOk p k = true) : ansN p k ms x = if mayT p (k, ms) x.toNat then 1 else 0 := ansN_yes h1 h2 h3
theorem ctermV_of (p k : Int) (ms : List (Int × Int)) : ctermV p (k, ms) = if claimOk p (k, ms) then ctermL (k, ms) else [] := rfl
theorem I64s_cterm7 {k : Int} {ms : List (Int × Int)} (hk : I64 k) (hi : I64s ms) : I64s (ctermL (k, ms)) := by
  have e0 : I64 0 := I64_small (by omega) (by omega)
  have e5 : I64 5 := I64_small (by omega) (by omega)
  rw [ctermL_eq]
  exact I64s_append (I64s_append (I64s_one e0 hk) hi) (I64s_one e5 e0)
theorem below_grown7 {B : Nat} {w w1 w2 : World} {row : Option Nat} (h : Below B w w1) (hg : w1.grownBy w2 row) (hB : B ≤ w1.heap.size) (hr : ∀ k, row = some k → B ≤ k) : Below B w w2 :=
  h.trans ⟨hg.os, hg.tape, hg.output, hg.size, fun i hi => hg.block i (by omega) (fun e => by have := hr i e.symm; omega)⟩
/-- a row of two marks around a term: two appends -/
theorem cterm_runs (w : World) (B : Nat) (u : Value) (k : Int) (ms : List (Int × Int)) (hr : RdMarks w B u ms) (hB : B ≤ w.heap.size) (hlen : ms.length ≤ 2000000) : ∃ (f2 : Option Addr) (g2 : Nat) (w2 : World) (f4 : Option Addr) (g4 : Nat) (w4 : World),
    (Builtin.append_ #[TS, TS] TS #[.slice (some ⟨w.heap.size, 0, none⟩) 1 1, u]).run Try.prog (w.alloc (.cells #[.int .i64 0, .int .i64 k] TM)) = .ok (.slice f2 (1 + ms.length) g2) w2 ∧
    (Builtin.append_ #[TS, TS] TS #[.slice f2 (1 + ms.length) g2, .slice (some ⟨w2.heap.size, 0, none⟩) 1 1]).run Try.prog (w2.alloc (.cells #[.int .i64 5, .int .i64 0] TM)) = .ok (.slice f4 (ms.length + 2) g4) w4 ∧
    w4.ownsRow w.heap.size TM 2 (.slice f4 (ms.length + 2) g4) (ctermL (k, ms)).length (mcells (ctermL (k, ms))) ∧ Below w.heap.size w w4 := by
  obtain ⟨im, hmi, hmz0, hmz1, hmz2⟩ := info_parts Try.infoM
  have hb1 : Below w.heap.size w (w.alloc (.cells #[.int .i64 0, .int .i64 k] TM)) := (Below.refl _ _).alloc (Nat.le_refl _) _
  have ho1 := own_new w w.heap.size 0 k (Nat.le_refl _)
  obtain ⟨v2, w2, hrun2, ho2, hg2, _⟩ := append_rd hmi hmz0 hmz1 hmz2 ho1 (hr.below (w' := w.alloc (.cells #[.int .i64 0, .int .i64 k] TM)) (fun q hq => hb1.block q (by omega))) (by omega) hb1.size
  have hb2 := below_grown7 hb1 hg2 hb1.size (fun q hq => (ho1.lt q hq).1)
  rw [← mcells_append] at ho2
  have hb3 : Below w.heap.size w (w2.alloc (.cells #[.int .i64 5, .int .i64 0] TM)) := hb2.alloc hb2.size _
  have ho3 := ho2.alloc (.cells #[.int .i64 5, .int .i64 0] TM)
  have hl3 : RdMarks (w2.alloc (.cells #[.int .i64 5, .int .i64 0] TM)) (w2.alloc (.cells #[.int .i64 5, .int .i64 0] TM)).heap.size (.slice (some ⟨w2.heap.size, 0, none⟩) 1 1) [(5, 0)] :=
    RdMarks.of_own (own_new w2 w2.heap.size 5 0 (Nat.le_refl _)) (I64s_one (I64_small (by omega) (by omega)) (I64_small (by omega) (by omega)))
  obtain ⟨v4, w4, hrun4, ho4, hg4, _⟩ := append_rd hmi hmz0 hmz1 hmz2 ho3 hl3 (by simp; omega) hb3.size
  have hb4 := below_grown7 hb3 hg4 hb3.size (fun q hq => (ho3.lt q hq).1)
  rw [← mcells_append, ← ctermL_eq] at ho4
  have hcl : (ctermL (k, ms)).length = ms.length + 2 := cterm_len2 k ms
  rw [show 1 + ms.length + [((5 : Int), (0 : Int))].length = (ctermL (k, ms)).length by rw [hcl]; simp; omega] at ho4
  obtain ⟨f2, g2, rfl⟩ := own_len ho2
  obtain ⟨f4, g4, rfl⟩ := own_len ho4
  rw [hcl] at hrun4 ho4 ⊢
  exact ⟨f2, g2, w2, f4, g4, w4, hrun2, hrun4, ho4, hb4⟩
theorem specMayA {p k : Int} {ms : List (Int × Int)} (h : termOk p ms = true) (hk : inOk p k = true) (W : Nat) (hW : W < 16) (B : Nat) (u : Value) (w : World) (hr : RdMarks w B u ms) (hB : B ≤ w.heap.size) :
    Calls Try.prog 41 #[.agg #[.int .i64 k, u], .int .i64 W] w fun e w' => e = .returned (.bool (mayT p (k, ms) W)) ∧ Below w.heap.size w w' := by
  obtain ⟨⟨h1, h4⟩, hl, t, ht, rfl⟩ := termOk_iff.1 h
  obtain ⟨h0, hkp⟩ := inOk_iff.1 hk
  obtain ⟨K, rfl⟩ := Int.eq_ofNat_of_zero_le h0
  have hm := specMay t ht h4 hl K W (by omega) hW B u w hr hB
  have e : mayT p ((K : Int), t.post) W = (W.testBit K == holds W t) := by unfold mayT; dsimp only; rw [tmOf_post ht, Int.toNat_natCast]
  rw [e]
  exact hm
attribute [local irreducible] holds tabN tabV holdsV sameV followsV alwaysV matterV claimOk mayT mayV ctabV ctabN storyV storyOk storyN storyT ctermV ctermL ansN inOk chainL chainOk chainV alikeV liesN mcells
/-- what a call hands back that returns marks in memory of its own, and whether they are what was asked for -/
def RowOk (ms : List (Int × Int)) (o : Bool) (w : World) (e : Ending) (w' : World) : Prop := ∃ v, e = .returned (.tuple #[v, .bool o]) ∧ w'.ownsRow w.heap.size TM 2 v ms.length (mcells ms) ∧ Below w.heap.size w w'
end Go.Proofs.Ytbcmepcjhobemaa

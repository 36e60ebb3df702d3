/- Texts of a proof, merged: LawsA, DrawN, DrawC, DrawS, DrawZ. -/
import Derived.Test.YtngkgdoefpgnoaaMerged6
import Derived.Test.YtngkgdoefpgnoaaMerged4
import Derived.Test.YtngkgdoefpgnoaaDraw
import Derived.WalkKit
import Derived.ProofKit
import Derived.Test.YtngkgdoefpgnoaaDrawM
import Derived.Test.YtngkgdoefpgnoaaClaimS
import Derived.Deep.RegionHeld3
import Derived.Deep.Cut
import Derived.OwnWalk
import Derived.Test.YtngkgdoefpgnoaaMerged8
/- The first laws of chapter 1: worlds. Each answers true, whatever the code. No condition. -/
namespace Go.Proofs.Ytngkgdoefpgnoaa
open Go.RowKit

attribute [local irreducible] heads turned tabOf wl

/-- two drawn numbers of which P holds, nothing that was there is changed -/
def Out2 (P : Int → Int → Prop) (w : World) (e : Ending) (w' : World) : Prop :=
  ∃ p x : Int, P p x ∧ e = .returned (.tuple #[.int .i64 p, .int .i64 x]) ∧ Below w.heap.size w w'
theorem below_of_grown {w w1 w' : World} {b : Nat} (h : Below w.heap.size w w1) (hb : w.heap.size ≤ b) (hg : w1.grownBy w' (some b)) : Below w.heap.size w w' :=
  h.grown hg h.size (fun k hk => by cases hk; exact hb)
theorem code_big {n : Nat} (h : ¬ n ≤ 1048576) : (1048576 : Int) < (n : Int) := by omega




end Go.Proofs.Ytngkgdoefpgnoaa

namespace Go.Proofs.Ytngkgdoefpgnoaa
open Go.RowKit
theorem heads_opp {p : Int} {X N : Nat} (h1 : 1 ≤ p) (h2 : p ≤ 4) (hN : (N : Int) = 2 ^ p.toNat) (hX : X < N) : (heads X : Int) + heads (N - 1 - X) = p := by
  rcases p_cases h1 h2 with rfl | rfl | rfl | rfl
  · have : N = 2 := by simp at hN; omega
    subst this
    exact (by decide +kernel : ∀ X : Nat, X < 2 → (heads X : Int) + heads (2 - 1 - X) = 1) X hX
  · have : N = 4 := by simp at hN; omega
    subst this
    exact (by decide +kernel : ∀ X : Nat, X < 4 → (heads X : Int) + heads (4 - 1 - X) = 2) X hX
  · have : N = 8 := by simp at hN; omega
    subst this
    exact (by decide +kernel : ∀ X : Nat, X < 8 → (heads X : Int) + heads (8 - 1 - X) = 3) X hX
  · have : N = 16 := by simp at hN; omega
    subst this
    exact (by decide +kernel : ∀ X : Nat, X < 16 → (heads X : Int) + heads (16 - 1 - X) = 4) X hX
theorem N_even {p : Int} {N : Nat} (h1 : 1 ≤ p) (h2 : p ≤ 4) (hN : (N : Int) = 2 ^ p.toNat) : N = 2 ∨ N = 4 ∨ N = 8 ∨ N = 16 := by
  rcases p_cases h1 h2 with rfl | rfl | rfl | rfl <;> simp at hN <;> omega
theorem wOk_N {p x : Int} {N : Nat} (h : wOk p x = true) (hN : (N : Int) = 2 ^ p.toNat) : 0 ≤ x ∧ x < N := by
  have := wOk_iff.1 h; omega
theorem wOk_of {p x : Int} {N : Nat} (h1 : 1 ≤ p) (h2 : p ≤ 4) (hN : (N : Int) = 2 ^ p.toNat) (h3 : 0 ≤ x) (h4 : x < N) : wOk p x = true :=
  wOk_iff.2 ⟨h1, h2, h3, by omega⟩
end Go.Proofs.Ytngkgdoefpgnoaa
/- The reference model's draws of a number of people and a term. -/
namespace Go.Proofs.Ytngkgdoefpgnoaa
open Go.RowKit Go.Joins

/-- a number of people and a row of marks; the reader is at most at c -/
def DrewT (b c : Nat) (w : World) (e : Ending) (w' : World) : Prop :=
  ∃ (p : Int) (g n cap : Nat) (ms : List (Int × Int)), 1 ≤ p ∧ p ≤ 8 ∧ e = .returned (.tuple #[.int .i64 p, .slice (some ⟨g, 0, none⟩) n cap]) ∧ ms.length = n ∧ w'.ownsRow w.heap.size TM 2 (.slice (some ⟨g, 0, none⟩) n cap) n (mcells ms) ∧ I64s ms ∧ n ≤ 20 ∧ Rd w' b c ∧ w.grownBy w' (some b)
/-- what a draw of a number of people and a row of marks hands back -/
def OutT (w : World) (e : Ending) (w' : World) : Prop :=
  ∃ (p : Int) (g n cap : Nat) (ms : List (Int × Int)), 1 ≤ p ∧ p ≤ 8 ∧ e = .returned (.tuple #[.int .i64 p, .slice (some ⟨g, 0, none⟩) n cap]) ∧ ms.length = n ∧ w'.ownsRow w.heap.size TM 2 (.slice (some ⟨g, 0, none⟩) n cap) n (mcells ms) ∧ I64s ms ∧ n ≤ 20 ∧ Below w.heap.size w w'






end Go.Proofs.Ytngkgdoefpgnoaa
/- The reference model's draws of claims and stories. -/
namespace Go.Proofs.Ytngkgdoefpgnoaa
open Go.RowKit Go.Joins
/-- what a draw of a number of people and a claim hands back -/
def OutC (w : World) (e : Ending) (w' : World) : Prop :=
  ∃ (p k : Int) (g cap : Nat) (ms : List (Int × Int)), 1 ≤ p ∧ p ≤ 8 ∧ e = .returned (.tuple #[.int .i64 p, .agg #[.int .i64 k, .slice (some ⟨g, 0, none⟩) ms.length cap]]) ∧ w'.ownsRow w.heap.size TM 2 (.slice (some ⟨g, 0, none⟩) ms.length cap) ms.length (mcells ms) ∧ I64s ms ∧ ms.length ≤ 20 ∧ -1 ≤ k ∧ k ≤ 4 ∧ Below w.heap.size w w'
theorem RdBytes.up {w w1 : World} {a : Value} {n : Nat} (h : RdBytes w w.heap.size a n) (hb : Below w.heap.size w w1) : RdBytes w1 w1.heap.size a n := by
  obtain ⟨ao, cap, hv, hl, hm, hc⟩ := h.below (fun k hk => hb.block k hk)
  refine ⟨ao, cap, hv, hl, hm, fun j hj => ?_⟩
  obtain ⟨b, off, ha, hlt, hz⟩ := hc j hj
  exact ⟨b, off, ha, by have := hb.size; omega, hz⟩
theorem below_row {w w1 w2 : World} {row : Option Nat} (h : Below w.heap.size w w1) (hg : w1.grownBy w2 row) (hr : ∀ k, row = some k → w.heap.size ≤ k) : Below w.heap.size w w2 :=
  h.grown hg h.size hr
/-- what a draw of a number of people, a claim and a world hands back -/
def OutCX (w : World) (e : Ending) (w' : World) : Prop :=
  ∃ (p k : Int) (g cap : Nat) (ms : List (Int × Int)) (x : Int), 1 ≤ p ∧ p ≤ 4 ∧ e = .returned (.tuple #[.int .i64 p, .agg #[.int .i64 k, .slice (some ⟨g, 0, none⟩) ms.length cap], .int .i64 x]) ∧ w'.ownsRow w.heap.size TM 2 (.slice (some ⟨g, 0, none⟩) ms.length cap) ms.length (mcells ms) ∧ I64s ms ∧ ms.length ≤ 20 ∧ -1 ≤ k ∧ k ≤ 4 ∧ 0 ≤ x ∧ x ≤ 100 ∧ Below w.heap.size w w'
end Go.Proofs.Ytngkgdoefpgnoaa
/- The reference model's draws of stories. -/
namespace Go.Proofs.Ytngkgdoefpgnoaa
open Go.RowKit Go.Joins
def QSmall (qs : List QC) : Prop := ∀ q ∈ qs, q.2.2.length ≤ 20 ∧ -1 ≤ q.2.1 ∧ q.2.1 ≤ 4
theorem QSmall.snoc {qs : List QC} {q : QC} (h : QSmall qs) (hq : q.2.2.length ≤ 20 ∧ -1 ≤ q.2.1 ∧ q.2.1 ≤ 4) : QSmall (qs ++ [q]) := by
  intro r hr
  rcases List.mem_append.1 hr with hr | hr
  · exact h r hr
  · simp at hr; subst hr; exact hq
/-- one claim more: how a round ends -/
theorem claim_added {w w4 w5 : World} {b : Nat} {v v' u : Value} {qs : List QC} {k : Int} {ms : List (Int × Int)} {c : Nat} {o : Obj} (hb : b < w.heap.size) (hs : StoryIn w4 w.heap.size w.heap.size v qs) (hq : QSmall qs)
    (hu : w4.ownsRow w.heap.size TM 2 u ms.length (mcells ms)) (hi : I64s ms) (hn : ms.length ≤ 20) (hk1 : -1 ≤ k) (hk4 : k ≤ 4) (hG : w.grownBy w4 (some b)) (hr : Rd w4 b c)
    (hown : w5.ownsRow w.heap.size TC 2 v' (qs.length + 1) (ccells qs ++ ccells [(u, (k, ms))])) (hg : (w4.alloc o).grownBy w5 v.ownBlock) :
    StoryIn w5 w.heap.size w.heap.size v' (qs ++ [(u, (k, ms))]) ∧ QSmall (qs ++ [(u, (k, ms))]) ∧ w.grownBy w5 (some b) ∧ Rd w5 b c := by
  refine ⟨(hs.alloc o).push ⟨hu.alloc o, hi, show I64 k from I64_small (by omega) (by omega)⟩ hown hg, hq.snoc ⟨hn, hk1, hk4⟩, ?_, ?_⟩
  · exact grown_own (only_alloc hG _) hg fun q hq => (hs.1.lt q hq).1
  · exact (hr.alloc _).grown hg (own_row_block hs.1 hb)
/-- what a draw of a number of people and a story hands back -/
def OutS (w : World) (e : Ending) (w' : World) : Prop :=
  ∃ (p : Int) (v : Value) (qs : List QC), -4 ≤ p ∧ p ≤ 8 ∧ e = .returned (.tuple #[.int .i64 p, v]) ∧ StoryIn w' w.heap.size w.heap.size v qs ∧ QSmall qs ∧ qs.length ≤ 7 ∧ Below w.heap.size w w'
end Go.Proofs.Ytngkgdoefpgnoaa
/- The reference model's draws of links. -/
namespace Go.Proofs.Ytngkgdoefpgnoaa
open Go.RowKit Go.Joins
abbrev TL : TypeId := 64
abbrev TLs : TypeId := 37
theorem Try.infoL : (Try.prog.info? TL).map (fun i => (i.zero, i.size, i.bytes)) = some (some (.agg #[.int .i64 0, .int .i64 0, .bool false]), 3, 24) := by kernel_rfl
theorem add_zero12 (g j : Nat) : (⟨g, 0, none⟩ : Addr).add j = ⟨g, j, none⟩ := by simp [Addr.add]; omega
theorem newsL (W : World) (g : Nat) (hg : g = W.heap.size) (a b : Int) (t : Bool) : ∀ (j : Nat) (u' : Value), (lcells [(a, b, t)])[j]? = some u' → (W.alloc (.cells #[.int .i64 a, .int .i64 b, .bool t] TL)).cell? ((⟨g, 0, none⟩ : Addr).add j) = some u' := by
  intro j x hj
  subst hg
  rw [add_zero12, cell_of_row _ W.heap.size j _ TL (0, 0) (heap_alloc_new W _), ← hj]
  simp [lcells]
/-- numbers that are drawn are small -/
def LSmall (ls : List Lk) : Prop := ∀ l ∈ ls, 0 ≤ l.1 ∧ l.1 ≤ 4 ∧ 0 ≤ l.2.1 ∧ l.2.1 ≤ 8
theorem LSmall.snoc {ls : List Lk} {l : Lk} (h : LSmall ls) (hl : 0 ≤ l.1 ∧ l.1 ≤ 4 ∧ 0 ≤ l.2.1 ∧ l.2.1 ≤ 8) : LSmall (ls ++ [l]) := by
  intro r hr
  rcases List.mem_append.1 hr with hr | hr
  · exact h r hr
  · simp at hr; subst hr; exact hl
theorem LSmall.i64 {ls : List Lk} (h : LSmall ls) : L64 ls := fun l hl => by
  have := h l hl
  exact ⟨I64_small (by omega) (by omega), I64_small (by omega) (by omega)⟩
/-- what a draw of a number of people and links hands back -/
def DrewL (b c : Nat) (w : World) (e : Ending) (w' : World) : Prop :=
  ∃ (p : Int) (v : Value) (ls : List Lk), 1 ≤ p ∧ p ≤ 8 ∧ e = .returned (.tuple #[.int .i64 p, v]) ∧ w'.ownsRow w.heap.size TL 3 v ls.length (lcells ls) ∧ LSmall ls ∧ ls.length ≤ 8 ∧ Rd w' b c ∧ w.grownBy w' (some b)
def OutL12 (w : World) (e : Ending) (w' : World) : Prop :=
  ∃ (p : Int) (v : Value) (ls : List Lk), 0 ≤ p ∧ p ≤ 8 ∧ e = .returned (.tuple #[.int .i64 p, v]) ∧ w'.ownsRow w.heap.size TL 3 v ls.length (lcells ls) ∧ LSmall ls ∧ ls.length ≤ 8 ∧ Below w.heap.size w w'
theorem div_cases {z m : Int} (h0 : 0 ≤ z) (h1 : z < m + 1) (_hm : 0 < m) (hm2 : 1 < m) : z.tdiv m = 0 ∨ z.tdiv m = 1 := by
  rw [Int.tdiv_eq_ediv_of_nonneg h0]
  by_cases h : z = m
  · right; rw [h]; exact Int.ediv_self (by omega)
  · left; exact Int.ediv_eq_zero_of_lt h0 (by omega)
end Go.Proofs.Ytngkgdoefpgnoaa

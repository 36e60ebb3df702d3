/- The reference model's reader of a code: its number picks, each between 0 and the bound. -/
import Derived.Test.YtngkgdoefpgnoaaMerged4
import Derived.BigQuiet
import Derived.Deep.QuietTactic
import Derived.Deep.RegionWith
import Derived.Deep.DeepCutAuto
namespace Go.Proofs.Ytngkgdoefpgnoaa
open Go.RowKit

/-- a number drawn below n, and the reader's count one further -/
def Picked (n : Nat) (W : World) (e : Ending) (w' : World) : Prop := ∃ x : Nat, x < n ∧ e = .returned (.int .i64 x) ∧ ∃ k, W.drewN k = w'

/-- the reader in block b has drawn at most c numbers -/
def Rd (w : World) (b c : Nat) : Prop :=
  ∃ ao m cap p, w.cell? ⟨b, 0, none⟩ = some (.slice ao m cap) ∧ m ≤ 2000 ∧
    (∀ j, j < m → ∃ bb off, ao = some ⟨bb, off, none⟩ ∧ bb < b ∧ ∃ z : Nat, z < 256 ∧ w.cell? ⟨bb, off + j, none⟩ = some (.int .u8 z)) ∧
    w.cell? ⟨b, 1, none⟩ = some (.int .i64 (p : Nat)) ∧ p ≤ c ∧ w.frozen? ⟨b, 1, none⟩ = false
theorem Rd.kept {w w' : World} {b c : Nat} (h : Rd w b c) (hk : ∀ k, k ≤ b → w'.heap[k]? = w.heap[k]?) : Rd w' b c := by
  obtain ⟨ao, m, cap, p, h0, hm, hc, h1, hp, hf⟩ := h
  refine ⟨ao, m, cap, p, ?_, hm, fun j hj => ?_, ?_, hp, ?_⟩
  · rw [← h0]; exact World.cell?_of_block (w := w) (hk b (Nat.le_refl _))
  · obtain ⟨bb, off, ha, hb, z, hz, hcell⟩ := hc j hj
    exact ⟨bb, off, ha, hb, z, hz, by rw [← hcell]; exact World.cell?_of_block (w := w) (hk bb (Nat.le_of_lt hb))⟩
  · rw [← h1]; exact World.cell?_of_block (w := w) (hk b (Nat.le_refl _))
  · rw [← hf]; exact World.frozen?_of_block (w := w) (hk b (Nat.le_refl _))
theorem Rd.lt {w : World} {b c : Nat} (h : Rd w b c) : b < w.heap.size := by
  obtain ⟨ao, m, cap, p, h0, _⟩ := h
  exact World.block_lt_of_cell? w _ h0
theorem Rd.mono {w : World} {b c c' : Nat} (h : Rd w b c) (hc : c ≤ c') : Rd w b c' := by
  obtain ⟨ao, m, cap, p, h0, hm, hcl, h1, hp, hf⟩ := h
  exact ⟨ao, m, cap, p, h0, hm, hcl, h1, by omega, hf⟩
theorem Rd.grown {w w' : World} {b c : Nat} (h : Rd w b c) {row : Option Nat} (hg : w.grownBy w' row) (hr : ∀ k, row = some k → b < k) : Rd w' b c :=
  h.kept fun k hk => hg.block k (by have := h.lt; omega) (fun e => by have := hr k e.symm; omega)
/-- what a draw leaves of the world -/
theorem grownBy_pick {w w1 : World} {b p k : Nat} (hw : (w.setCell ⟨b, 1, none⟩ (.int .i64 ((p : Int) + 1))).drewN k = w1) : w.grownBy w1 (some b) := by
  subst hw
  exact ⟨rfl, rfl, rfl, by simp [World.setCell], fun i _ hne => Below.heap_setCell _ _ _ _ (by intro e; exact hne (by rw [e]))⟩

/-- a number drawn below N: the reader is one further, nothing else is changed -/
def Drawn (N : Int) (b c : Nat) (w : World) (e : Ending) (w' : World) : Prop := ∃ x : Int, 0 ≤ x ∧ x < N ∧ e = .returned (.int .i64 x) ∧ Rd w' b (c + 1) ∧ w.grownBy w' (some b)
theorem pick_done {N : Int} {n b c p : Nat} {w : World} (hN : N = n) (hpc : p ≤ c) {ao : Option Addr} {m cap : Nat}
    (h0 : w.cell? ⟨b, 0, none⟩ = some (.slice ao m cap)) (hm : m ≤ 2000)
    (hc : ∀ j, j < m → ∃ bb off, ao = some ⟨bb, off, none⟩ ∧ bb < b ∧ ∃ z : Nat, z < 256 ∧ w.cell? ⟨bb, off + j, none⟩ = some (.int .u8 z))
    (h1 : w.cell? ⟨b, 1, none⟩ = some (.int .i64 (p : Nat))) (hf : w.frozen? ⟨b, 1, none⟩ = false) {e : Ending} {w' : World}
    (h : Picked n (w.setCell ⟨b, 1, none⟩ (.int .i64 ((p : Int) + 1))) e w') : Drawn N b c w e w' := by
  obtain ⟨x, hx, he, k, hw⟩ := h
  subst hN
  refine ⟨x, by omega, by omega, he, ?_, grownBy_pick hw⟩
  have hlow : ∀ i, i < b → w'.heap[i]? = w.heap[i]? := fun i hi => by
    have hlt : b < w.heap.size := World.block_lt_of_cell? w _ h0
    exact (grownBy_pick hw).block i (by omega) (by intro e; cases e; omega)
  subst hw
  refine ⟨ao, m, cap, p + 1, ?_, hm, fun j hj => ?_, ?_, by omega, ?_⟩
  · show (w.setCell _ _).cell? _ = _
    go_simp
  · obtain ⟨bb, off, ha, hb, z, hz, hcell⟩ := hc j hj
    exact ⟨bb, off, ha, hb, z, hz, by rw [← hcell]; exact World.cell?_of_block (w := w) (hlow bb hb)⟩
  · show (w.setCell _ _).cell? _ = _
    go_simp
  · show (w.setCell _ _).frozen? _ = _
    go_simp


theorem rd_new (w : World) (ao : Option Addr) (m cap : Nat) (T : TypeId) (hm : m ≤ 2000)
    (hc : ∀ j, j < m → ∃ bb off, ao = some ⟨bb, off, none⟩ ∧ bb < w.heap.size ∧ ∃ z : Nat, z < 256 ∧ w.cell? ⟨bb, off + j, none⟩ = some (.int .u8 z)) :
    Rd (w.alloc (.cells #[.slice ao m cap, .int .i64 0] T)) w.heap.size 0 := by
  refine ⟨ao, m, cap, 0, by go_simp, hm, fun j hj => ?_, by go_simp, Nat.le_refl _, by go_simp⟩
  obtain ⟨bb, off, ha, hb, z, hz, hcell⟩ := hc j hj
  exact ⟨bb, off, ha, hb, z, hz, by rw [← hcell]; exact World.cell?_of_block (w := w) (Below.heap_alloc _ _ _ hb)⟩


/-- two numbers of which P holds; the reader is at most at c -/
def Drew2 (P : Int → Int → Prop) (b c : Nat) (w : World) (e : Ending) (w' : World) : Prop :=
  ∃ p x : Int, P p x ∧ e = .returned (.tuple #[.int .i64 p, .int .i64 x]) ∧ Rd w' b c ∧ w.grownBy w' (some b)
def PW (p x : Int) : Prop := 1 ≤ p ∧ p ≤ 8 ∧ 0 ≤ x ∧ x < 32
theorem grownBy_drew0 {a b : World} {row : Option Nat} (h : a.drew.grownBy b row) : a.grownBy b row := ⟨h.os, h.tape, h.output, h.size, h.block⟩
theorem div_small {x : Int} (h0 : 0 ≤ x) (h1 : x < 40) : 0 ≤ x / 39 ∧ x / 39 ≤ 1 := by omega


end Go.Proofs.Ytngkgdoefpgnoaa

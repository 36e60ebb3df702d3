/- Texts of a proof, merged: PfA, Boxes, PfB. -/
import Derived.Test.YtefmoljipbbmmaaDoorMerged27
import Derived.Test.YtefmoljipbbmmaaDoorClaimI
import Derived.Test.YtefmoljipbbmmaaDoorMerged7
import Derived.Test.YtefmoljipbbmmaaDoorProveT
import Derived.Test.YtefmoljipbbmmaaDoorOneU
import Derived.Deep.RegionLaw
/- Contracts of the program's proofs by cases: what closes a case, and how a person parts one. -/
namespace Go.Proofs.YtefmoljipbbmmaaDoor
open Go.RowKit Go.Joins
/-- what closes a case: numbers of tables -/
def closeT (A T : Nat) (zs : List Nat) (g : Int) : Bool := if g = -1 then decide (A ^^^ (A &&& T) = 0) else decide (-2 - g < zs.length) && decide (A &&& zs.getD (-2 - g).toNat 0 = 0)
theorem closeT_goal {A T : Nat} {zs : List Nat} : closeT A T zs (-1) = decide (A ^^^ (A &&& T) = 0) := by unfold closeT; rw [if_pos rfl]
theorem closeT_out {A T : Nat} {zs : List Nat} {g : Int} (hg : g ≠ -1) (h : ¬ -2 - g < zs.length) : closeT A T zs g = false := by unfold closeT; rw [if_neg hg, decide_eq_false h]; rfl
theorem closeT_in {A T : Nat} {zs : List Nat} {k : Nat} (h : k < zs.length) : closeT A T zs (-2 - (k : Int)) = decide (A &&& zs.getD k 0 = 0) := by
  unfold closeT
  rw [if_neg (by omega), decide_eq_true (by omega), show (-2 - (-2 - (k : Int))).toNat = k by omega]; rfl
/-- the tables of the claims -/
def clT (p : Int) (s : List Cl) : List Nat := s.map (ctabN p)
theorem clT_len (p : Int) (s : List Cl) : (clT p s).length = s.length := by simp [clT]
theorem clT_lt {p : Int} {s : List Cl} (h1 : 1 ≤ p) (h4 : p ≤ 4) : ∀ j, (clT p s).getD j 0 < 65536 := fun j => by
  unfold clT
  by_cases hj : j < s.length
  · simp only [List.getD, List.getElem?_map, List.getElem?_eq_getElem hj]
    exact ctabN_lt h1 h4
  · simp [List.getD, List.getElem?_eq_none (Nat.le_of_not_lt hj)]
theorem close_T {p : Int} {s : List Cl} {ms : List (Int × Int)} {kn : List Int} {g : Int} (hg : g < 0) : closeB p.toNat (hfV p ms) (clL p s) g kn = closeT (agreeN p kn) (tabN p ms) (clT p s) g := by
  by_cases h1 : g = -1
  · subst h1
    rw [close_goal_tab, closeT_goal, Bool.eq_iff_iff, beq_iff_eq, decide_eq_true_eq]; omega
  · by_cases h2 : -2 - g < s.length
    · obtain ⟨k, hk⟩ := Int.eq_ofNat_of_zero_le (show 0 ≤ -2 - g by omega)
      have e : g = -2 - (k : Int) := by omega
      subst e
      have hks : k < s.length := by omega
      rw [close_claim_tab hks, closeT_in (by rw [clT_len]; exact hks), Bool.eq_iff_iff, beq_iff_eq, decide_eq_true_eq]
      have : (clT p s).getD k 0 = ctabN p (s.getD k (0, [])) := by unfold clT; simp [List.getD, hks]
      rw [this]; omega
    · rw [close_past h1 (by omega), closeT_out h1 (by rw [clT_len]; exact h2)]
/-- the program's grounds: for so many people, a goal's table, and the tables of the claims -/
abbrev gv (p : Int) (T : Nat) (cv : Value) : Value := .agg #[.int .i64 p, .int .i64 T, cv]
def RdTabs (w : World) (B : Nat) (cv : Value) (zs : List Nat) : Prop := RdInts w B cv (zs.map fun z : Nat => (z : Int)) ∧ zs.length ≤ 6 ∧ ∀ j, zs.getD j 0 < 65536
theorem RdTabs.below {w w' : World} {B : Nat} {v : Value} {zs : List Nat} (h : RdTabs w B v zs) (hb : ∀ k, k < B → w'.heap[k]? = w.heap[k]?) : RdTabs w' B v zs := ⟨h.1.below hb, h.2⟩
theorem RdTabs.mono {w : World} {B B' : Nat} {v : Value} {zs : List Nat} (h : RdTabs w B v zs) (hB : B ≤ B') : RdTabs w B' v zs := ⟨h.1.mono hB, h.2⟩
theorem RdTabs.form {w : World} {B : Nat} {v : Value} {zs : List Nat} (h : RdTabs w B v zs) : ∃ ao cap, v = .slice ao zs.length cap ∧ zs.length ≤ cap ∧ cap ≤ maxLen ∧ ∀ j, j < zs.length → ∃ b off, ao = some ⟨b, off, none⟩ ∧ b < B ∧ w.cell? ⟨b, off + j, none⟩ = some (.int .i64 (zs.getD j 0)) := by
  obtain ⟨ao, cap, hv, h1, h2, h3⟩ := h.1
  rw [List.length_map] at hv h1 h3
  refine ⟨ao, cap, hv, h1, h2, fun j hj => ?_⟩
  obtain ⟨b, off, e, hb, hc⟩ := h3 j hj
  refine ⟨b, off, e, hb, ?_⟩
  rw [hc]
  simp [List.getD, hj]
set_option maxRecDepth 100000 in
set_option maxHeartbeats 1000000 in
theorem implClosedBy (p : Int) (A T : Nat) (zs : List Nat) (g : Int) (hg : g < 0) (hg2 : -9223372036854775808 ≤ g) (hA : Hid (A < 65536)) (hT : Hid (T < 65536)) (B : Nat) (cv : Value) (w : World) (hc : RdTabs w B cv zs) (hB : B ≤ w.heap.size) :
    Calls Tryd.prog 64 #[gv p T cv, .int .i64 A, .int .i64 g] w fun e w' => e = .returned (.bool (closeT A T zs g)) ∧ Below w.heap.size w w' := by
  obtain ⟨_, hz6, hz⟩ := id hc
  obtain ⟨ao, cap, rfl, hle, hm, hcell⟩ := hc.form
  unfold maxLen at hm
  obtain ⟨w1, hw1, n1, n2, n3, hb1, hs1⟩ := new_three w (.int .i64 p) (.int .i64 T) (.slice ao zs.length cap) 89
  have Hb1 := Lib.hid hb1
  by_cases h1 : g = -1
  · subst h1
    have hnot := bits_andNot_nat A T (by have := hA.out; omega) (by have := hT.out; omega)
    have Hv : Hid (closeT A T zs (-1) = decide (A ^^^ (A &&& T) = 0)) := closeT_goal
    generalize hX : A ^^^ (A &&& T) = X at *
    clear hX hcell hz hb1 hc
    go_enter Tryd.func64, Tryd.ntmps64
    go_upto_region 1 with fail
    rw [← hw1]
    clear hw1
    go_wp2
    go_ret
    refine ⟨ret_bool ?_, Hb1.out⟩
    rw [Hv.out, Bool.eq_iff_iff]; simp
  · by_cases h2 : -2 - g < zs.length
    · obtain ⟨k, hk⟩ := Int.eq_ofNat_of_zero_le (show 0 ≤ -2 - g by omega)
      obtain rfl : g = -2 - (k : Int) := by omega
      have hkz : k < zs.length := by omega
      obtain ⟨b, off, rfl, hb, hcl⟩ := hcell k hkz
      have hcl1 := (hb1.cell (p := ⟨b, _, none⟩) (show b < _ by omega)).trans hcl
      have hand := bits_and_nat A (zs.getD k 0) (by have := hA.out; omega) (by have := hz k; omega)
      have Hv := Lib.hid (closeT_in (A := A) (T := T) hkz)
      generalize zs.getD k 0 = Z at *
      generalize hX : A &&& Z = X at *
      clear hX hcell hz hb1 hcl hc
      have hsub : (-2 : Int) - (-2 - (k : Int)) = k := by omega
      have hkz' : (k : Int) < (zs.length : Int) := by omega
      generalize zs.length = n at *
      clear h1 h2 hk
      go_enter Tryd.func64, Tryd.ntmps64
      go_upto_region 1 with fail
      rw [← hw1]
      clear hw1
      go_wp2
      go_ret
      refine ⟨ret_bool ?_, Hb1.out⟩
      rw [Hv.out, Bool.eq_iff_iff]; simp
    · have Hv := Lib.hid (closeT_out (A := A) (T := T) h1 h2)
      generalize zs.length = n at *
      clear hcell hz hb1 hc
      go_enter Tryd.func64, Tryd.ntmps64
      go_upto_region 1 with fail
      rw [← hw1]
      clear hw1
      go_wp2
      go_ret
      refine ⟨ret_bool ?_, Hb1.out⟩
      rw [Hv.out]
set_option maxRecDepth 100000 in
set_option maxHeartbeats 1000000 in
/-- nobody is parted who is not there -/
theorem implPartedOut (p : Int) (A T : Nat) (who : Int) (h : ¬ (0 ≤ who ∧ who < p)) (cv : Value) (w : World) :
    Calls Tryd.prog 65 #[gv p T cv, .int .i64 A, .int .i64 who] w fun e w' => e = .returned (.tuple #[.int .i64 0, .int .i64 0, .bool false]) ∧ Below w.heap.size w w' := by
  have hpo := fun w => implPersonOk p who w
  rw [decide_eq_false h] at hpo
  have Hpo := Lib.hid hpo; clear hpo h
  obtain ⟨w1, hw1, n1, n2, n3, hb1, hs1⟩ := new_three w (.int .i64 p) (.int .i64 T) cv 89
  have Hb1 := Lib.hid hb1
  clear hb1
  go_enter Tryd.func65, Tryd.ntmps65
  go_upto_region 1 with fail
  rw [← hw1]
  clear hw1
  go_wp2_with fail
  refine (Hpo.out _).mono ?_
  rintro e w' ⟨rfl, rfl⟩
  go_wp2
  go_ret3
  exact ⟨rfl, Hb1.out⟩
set_option maxRecDepth 100000 in
set_option maxHeartbeats 1000000 in
theorem implParted (p : Int) (A T : Nat) (k : Nat) (h1 : 1 ≤ p) (h4 : p ≤ 4) (hk : (k : Int) < p) (hA : Hid (A < 65536)) (cv : Value) (w : World) :
    Calls Tryd.prog 65 #[gv p T cv, .int .i64 A, .int .i64 k] w fun e w' => e = .returned (.tuple #[.int .i64 ((A ^^^ (A &&& tabN p [(0, (k : Int))]) : Nat) : Int), .int .i64 ((A &&& tabN p [(0, (k : Int))] : Nat) : Int), .bool (decide (A ^^^ (A &&& tabN p [(0, (k : Int))]) ≠ 0) && decide (A &&& tabN p [(0, (k : Int))] ≠ 0))]) ∧ Below w.heap.size w w' := by
  have hpo := fun w => implPersonOk p k w
  rw [decide_eq_true (show 0 ≤ (k : Int) ∧ (k : Int) < p by omega)] at hpo
  have Hpo := Lib.hid hpo; clear hpo
  have ht := (leaf_term h1 h4 hk).1
  have Htab : Hid (∀ W : World, Calls Tryd.prog 62 #[.int .i64 p, .slice (some ⟨W.heap.size, 0, none⟩) 1 1] (W.alloc (.cells #[.int .i64 0, .int .i64 k] TM)) fun e w' => e = .returned (.int .i64 (tabN p [(0, (k : Int))])) ∧ Below (W.heap.size + 1) (W.alloc (.cells #[.int .i64 0, .int .i64 k] TM)) w') := fun W => by
    have := implTableOf p [(0, (k : Int))] (W.heap.size + 1) (.slice (some ⟨W.heap.size, 0, none⟩) 1 1) _ (RdMarks.one W 0 k TM (I64_small (by omega) (by omega)) (I64_small (by omega) (by omega))) (by simp)
    rw [tabV_N ht] at this
    simpa using this
  have hM := tabN_lt ht
  obtain ⟨M, hMM⟩ : ∃ M, M = tabN p [(0, (k : Int))] := ⟨_, rfl⟩
  rw [← hMM] at Htab hM ⊢
  have hnot := bits_andNot_nat A M (by have := hA.out; omega) (by omega)
  have hand := bits_and_nat A M (by have := hA.out; omega) (by omega)
  clear hM hMM ht
  obtain ⟨w1, hw1, n1, n2, n3, hb1, hs1⟩ := new_three w (.int .i64 p) (.int .i64 T) cv 89
  have Hb1 := Lib.hid hb1
  have n1' := n1
  generalize hX : A ^^^ (A &&& M) = X at *
  generalize hY : A &&& M = Y at *
  clear hX hY hb1
  have Hnot := Lib.hid hnot
  have Hand := Lib.hid hand
  have N1 := Lib.hid n1
  have Hs1 := Lib.hid hs1
  clear hnot hand n2 n3 n1' hs1
  go_enter Tryd.func65, Tryd.ntmps65
  go_upto_region 1 with fail
  rw [← hw1]
  clear hw1
  go_wp2_with fail
  refine (Hpo.out _).mono ?_
  rintro e w' ⟨rfl, rfl⟩
  go_wp2_with fail
  refine (Htab.out _).mono ?_
  rintro e w2 ⟨rfl, hb2⟩
  have hs1 := Hs1.out
  have hb12 : Below w1.heap.size w1 w2 := ((Below.refl _ _).alloc (Nat.le_refl _) (.cells #[.int .i64 0, .int .i64 k] TM)).trans (hb2.mono (by omega))
  have Hb2 := Lib.hid (Hb1.out.trans (hb12.mono (by omega)))
  clear hb2 hb12 Htab
  have hnot := Hnot.out
  have hand := Hand.out
  by_cases hx0 : X = 0 <;> by_cases hy0 : Y = 0
  all_goals
    have hx0' : ((X : Int) = 0) = (X = 0) := by simp
    have hy0' : ((Y : Int) = 0) = (Y = 0) := by simp
    go_wp2
    go_ret3
    refine ⟨?_, Hb2.out⟩
    simp [hx0, hy0]
end Go.Proofs.YtefmoljipbbmmaaDoor
/- Variables of three, four and five cells in blocks of their own. -/
namespace Go.Proofs.YtefmoljipbbmmaaDoor
open Go.RowKit
def Box3 (w : World) (g : Nat) (a b c : Value) : Prop := w.cell? ⟨g, 0, none⟩ = some a ∧ w.cell? ⟨g, 1, none⟩ = some b ∧ w.cell? ⟨g, 2, none⟩ = some c ∧ w.frozen? ⟨g, 0, none⟩ = false ∧ w.frozen? ⟨g, 1, none⟩ = false ∧ w.frozen? ⟨g, 2, none⟩ = false ∧ g < w.heap.size
theorem Box3.new (w : World) (a b c : Value) (T : TypeId) : ∃ w1 : World, w1 = w.alloc (.cells #[a, b, c] T) ∧ Box3 w1 w.heap.size a b c ∧ Below w.heap.size w w1 ∧ w1.heap.size = w.heap.size + 1 := by
  have hh := heap_alloc_new w (.cells #[a, b, c] T)
  refine ⟨_, rfl, ⟨?_, ?_, ?_, frozen_of_row _ _ _ _ _ hh, frozen_of_row _ _ _ _ _ hh, frozen_of_row _ _ _ _ _ hh, by simp⟩, (Below.refl _ _).alloc (Nat.le_refl _) _, by simp⟩
  · have := cell_of_row (w.alloc (.cells #[a, b, c] T)) w.heap.size 0 _ T (0, 0) hh
    rw [this]; rfl
  · have := cell_of_row (w.alloc (.cells #[a, b, c] T)) w.heap.size 1 _ T (0, 0) hh
    rw [this]; rfl
  · have := cell_of_row (w.alloc (.cells #[a, b, c] T)) w.heap.size 2 _ T (0, 0) hh
    rw [this]; rfl
theorem Box3.lt {w : World} {g : Nat} {a b c : Value} (h : Box3 w g a b c) : g < w.heap.size := h.2.2.2.2.2.2
theorem Box3.kept {w w' : World} {g : Nat} {a b c : Value} (h : Box3 w g a b c) (hk : w'.heap[g]? = w.heap[g]?) (hs : g < w'.heap.size) : Box3 w' g a b c :=
  ⟨(World.cell?_of_block (w := w) hk).trans h.1, (World.cell?_of_block (w := w) hk).trans h.2.1, (World.cell?_of_block (w := w) hk).trans h.2.2.1, (World.frozen?_of_block (w := w) hk).trans h.2.2.2.1, (World.frozen?_of_block (w := w) hk).trans h.2.2.2.2.1, (World.frozen?_of_block (w := w) hk).trans h.2.2.2.2.2.1, hs⟩
theorem Box3.below {w w' : World} {g : Nat} {a b c : Value} (h : Box3 w g a b c) (hb : Below w.heap.size w w') : Box3 w' g a b c := h.kept (hb.block g h.lt) (by have := hb.size; have := h.lt; omega)
theorem Box3.belowAt {w w' : World} {g B : Nat} {a b c : Value} (h : Box3 w g a b c) (hb : Below B w w') (hg : g < B) : Box3 w' g a b c := h.kept (hb.block g hg) (by have := hb.size; have := h.lt; omega)
theorem Box3.grown {w w' : World} {g : Nat} {a b c : Value} {row : Option Nat} (h : Box3 w g a b c) (hg : w.grownBy w' row) (hne : row ≠ some g) : Box3 w' g a b c := h.kept (hg.block g h.lt (fun e => hne e.symm)) (by have := hg.size; have := h.lt; omega)
theorem Box3.alloc {w : World} {g : Nat} {a b c : Value} (h : Box3 w g a b c) (o : Obj) : Box3 (w.alloc o) g a b c := h.kept (Below.heap_alloc w o g h.lt) (by have := h.lt; simp; omega)
theorem Box3.set0 {w : World} {g : Nat} {a b c : Value} (h : Box3 w g a b c) (z : Value) : Box3 (w.setCell ⟨g, 0, none⟩ z) g z b c ∧ w.grownBy (w.setCell ⟨g, 0, none⟩ z) (some g) := by
  obtain ⟨h0, h1, h2, h3, h4, h5, h6⟩ := h
  exact ⟨⟨by go_simp, by go_simp, by go_simp, by go_simp, by go_simp, by go_simp, by simpa [World.setCell] using h6⟩, grown_set _ _ _ _⟩
theorem Box3.set1 {w : World} {g : Nat} {a b c : Value} (h : Box3 w g a b c) (z : Value) : Box3 (w.setCell ⟨g, 1, none⟩ z) g a z c ∧ w.grownBy (w.setCell ⟨g, 1, none⟩ z) (some g) := by
  obtain ⟨h0, h1, h2, h3, h4, h5, h6⟩ := h
  exact ⟨⟨by go_simp, by go_simp, by go_simp, by go_simp, by go_simp, by go_simp, by simpa [World.setCell] using h6⟩, grown_set _ _ _ _⟩
theorem Box3.set2 {w : World} {g : Nat} {a b c : Value} (h : Box3 w g a b c) (z : Value) : Box3 (w.setCell ⟨g, 2, none⟩ z) g a b z ∧ w.grownBy (w.setCell ⟨g, 2, none⟩ z) (some g) := by
  obtain ⟨h0, h1, h2, h3, h4, h5, h6⟩ := h
  exact ⟨⟨by go_simp, by go_simp, by go_simp, by go_simp, by go_simp, by go_simp, by simpa [World.setCell] using h6⟩, grown_set _ _ _ _⟩
def Box4 (w : World) (g : Nat) (a b c d : Value) : Prop := w.cell? ⟨g, 0, none⟩ = some a ∧ w.cell? ⟨g, 1, none⟩ = some b ∧ w.cell? ⟨g, 2, none⟩ = some c ∧ w.cell? ⟨g, 3, none⟩ = some d ∧ w.frozen? ⟨g, 0, none⟩ = false ∧ w.frozen? ⟨g, 1, none⟩ = false ∧ w.frozen? ⟨g, 2, none⟩ = false ∧ w.frozen? ⟨g, 3, none⟩ = false ∧ g < w.heap.size
theorem Box4.new (w : World) (a b c d : Value) (T : TypeId) : ∃ w1 : World, w1 = w.alloc (.cells #[a, b, c, d] T) ∧ Box4 w1 w.heap.size a b c d ∧ Below w.heap.size w w1 ∧ w1.heap.size = w.heap.size + 1 := by
  have hh := heap_alloc_new w (.cells #[a, b, c, d] T)
  refine ⟨_, rfl, ⟨?_, ?_, ?_, ?_, frozen_of_row _ _ _ _ _ hh, frozen_of_row _ _ _ _ _ hh, frozen_of_row _ _ _ _ _ hh, frozen_of_row _ _ _ _ _ hh, by simp⟩, (Below.refl _ _).alloc (Nat.le_refl _) _, by simp⟩
  · have := cell_of_row (w.alloc (.cells #[a, b, c, d] T)) w.heap.size 0 _ T (0, 0) hh
    rw [this]; rfl
  · have := cell_of_row (w.alloc (.cells #[a, b, c, d] T)) w.heap.size 1 _ T (0, 0) hh
    rw [this]; rfl
  · have := cell_of_row (w.alloc (.cells #[a, b, c, d] T)) w.heap.size 2 _ T (0, 0) hh
    rw [this]; rfl
  · have := cell_of_row (w.alloc (.cells #[a, b, c, d] T)) w.heap.size 3 _ T (0, 0) hh
    rw [this]; rfl
theorem Box4.lt {w : World} {g : Nat} {a b c d : Value} (h : Box4 w g a b c d) : g < w.heap.size := h.2.2.2.2.2.2.2.2
theorem Box4.kept {w w' : World} {g : Nat} {a b c d : Value} (h : Box4 w g a b c d) (hk : w'.heap[g]? = w.heap[g]?) (hs : g < w'.heap.size) : Box4 w' g a b c d :=
  ⟨(World.cell?_of_block (w := w) hk).trans h.1, (World.cell?_of_block (w := w) hk).trans h.2.1, (World.cell?_of_block (w := w) hk).trans h.2.2.1, (World.cell?_of_block (w := w) hk).trans h.2.2.2.1, (World.frozen?_of_block (w := w) hk).trans h.2.2.2.2.1, (World.frozen?_of_block (w := w) hk).trans h.2.2.2.2.2.1, (World.frozen?_of_block (w := w) hk).trans h.2.2.2.2.2.2.1, (World.frozen?_of_block (w := w) hk).trans h.2.2.2.2.2.2.2.1, hs⟩
theorem Box4.below {w w' : World} {g : Nat} {a b c d : Value} (h : Box4 w g a b c d) (hb : Below w.heap.size w w') : Box4 w' g a b c d := h.kept (hb.block g h.lt) (by have := hb.size; have := h.lt; omega)
theorem Box4.belowAt {w w' : World} {g B : Nat} {a b c d : Value} (h : Box4 w g a b c d) (hb : Below B w w') (hg : g < B) : Box4 w' g a b c d := h.kept (hb.block g hg) (by have := hb.size; have := h.lt; omega)
theorem Box4.grown {w w' : World} {g : Nat} {a b c d : Value} {row : Option Nat} (h : Box4 w g a b c d) (hg : w.grownBy w' row) (hne : row ≠ some g) : Box4 w' g a b c d := h.kept (hg.block g h.lt (fun e => hne e.symm)) (by have := hg.size; have := h.lt; omega)
theorem Box4.alloc {w : World} {g : Nat} {a b c d : Value} (h : Box4 w g a b c d) (o : Obj) : Box4 (w.alloc o) g a b c d := h.kept (Below.heap_alloc w o g h.lt) (by have := h.lt; simp; omega)
theorem Box4.set0 {w : World} {g : Nat} {a b c d : Value} (h : Box4 w g a b c d) (z : Value) : Box4 (w.setCell ⟨g, 0, none⟩ z) g z b c d ∧ w.grownBy (w.setCell ⟨g, 0, none⟩ z) (some g) := by
  obtain ⟨h0, h1, h2, h3, h4, h5, h6, h7, h8⟩ := h
  exact ⟨⟨by go_simp, by go_simp, by go_simp, by go_simp, by go_simp, by go_simp, by go_simp, by go_simp, by simpa [World.setCell] using h8⟩, grown_set _ _ _ _⟩
theorem Box4.set1 {w : World} {g : Nat} {a b c d : Value} (h : Box4 w g a b c d) (z : Value) : Box4 (w.setCell ⟨g, 1, none⟩ z) g a z c d ∧ w.grownBy (w.setCell ⟨g, 1, none⟩ z) (some g) := by
  obtain ⟨h0, h1, h2, h3, h4, h5, h6, h7, h8⟩ := h
  exact ⟨⟨by go_simp, by go_simp, by go_simp, by go_simp, by go_simp, by go_simp, by go_simp, by go_simp, by simpa [World.setCell] using h8⟩, grown_set _ _ _ _⟩
theorem Box4.set2 {w : World} {g : Nat} {a b c d : Value} (h : Box4 w g a b c d) (z : Value) : Box4 (w.setCell ⟨g, 2, none⟩ z) g a b z d ∧ w.grownBy (w.setCell ⟨g, 2, none⟩ z) (some g) := by
  obtain ⟨h0, h1, h2, h3, h4, h5, h6, h7, h8⟩ := h
  exact ⟨⟨by go_simp, by go_simp, by go_simp, by go_simp, by go_simp, by go_simp, by go_simp, by go_simp, by simpa [World.setCell] using h8⟩, grown_set _ _ _ _⟩
theorem Box4.set3 {w : World} {g : Nat} {a b c d : Value} (h : Box4 w g a b c d) (z : Value) : Box4 (w.setCell ⟨g, 3, none⟩ z) g a b c z ∧ w.grownBy (w.setCell ⟨g, 3, none⟩ z) (some g) := by
  obtain ⟨h0, h1, h2, h3, h4, h5, h6, h7, h8⟩ := h
  exact ⟨⟨by go_simp, by go_simp, by go_simp, by go_simp, by go_simp, by go_simp, by go_simp, by go_simp, by simpa [World.setCell] using h8⟩, grown_set _ _ _ _⟩
def Box5 (w : World) (g : Nat) (a b c d e : Value) : Prop := w.cell? ⟨g, 0, none⟩ = some a ∧ w.cell? ⟨g, 1, none⟩ = some b ∧ w.cell? ⟨g, 2, none⟩ = some c ∧ w.cell? ⟨g, 3, none⟩ = some d ∧ w.cell? ⟨g, 4, none⟩ = some e ∧ w.frozen? ⟨g, 0, none⟩ = false ∧ w.frozen? ⟨g, 1, none⟩ = false ∧ w.frozen? ⟨g, 2, none⟩ = false ∧ w.frozen? ⟨g, 3, none⟩ = false ∧ w.frozen? ⟨g, 4, none⟩ = false ∧ g < w.heap.size
theorem Box5.new (w : World) (a b c d e : Value) (T : TypeId) : ∃ w1 : World, w1 = w.alloc (.cells #[a, b, c, d, e] T) ∧ Box5 w1 w.heap.size a b c d e ∧ Below w.heap.size w w1 ∧ w1.heap.size = w.heap.size + 1 := by
  have hh := heap_alloc_new w (.cells #[a, b, c, d, e] T)
  refine ⟨_, rfl, ⟨?_, ?_, ?_, ?_, ?_, frozen_of_row _ _ _ _ _ hh, frozen_of_row _ _ _ _ _ hh, frozen_of_row _ _ _ _ _ hh, frozen_of_row _ _ _ _ _ hh, frozen_of_row _ _ _ _ _ hh, by simp⟩, (Below.refl _ _).alloc (Nat.le_refl _) _, by simp⟩
  · have := cell_of_row (w.alloc (.cells #[a, b, c, d, e] T)) w.heap.size 0 _ T (0, 0) hh
    rw [this]; rfl
  · have := cell_of_row (w.alloc (.cells #[a, b, c, d, e] T)) w.heap.size 1 _ T (0, 0) hh
    rw [this]; rfl
  · have := cell_of_row (w.alloc (.cells #[a, b, c, d, e] T)) w.heap.size 2 _ T (0, 0) hh
    rw [this]; rfl
  · have := cell_of_row (w.alloc (.cells #[a, b, c, d, e] T)) w.heap.size 3 _ T (0, 0) hh
    rw [this]; rfl
  · have := cell_of_row (w.alloc (.cells #[a, b, c, d, e] T)) w.heap.size 4 _ T (0, 0) hh
    rw [this]; rfl
theorem Box5.lt {w : World} {g : Nat} {a b c d e : Value} (h : Box5 w g a b c d e) : g < w.heap.size := h.2.2.2.2.2.2.2.2.2.2
theorem Box5.kept {w w' : World} {g : Nat} {a b c d e : Value} (h : Box5 w g a b c d e) (hk : w'.heap[g]? = w.heap[g]?) (hs : g < w'.heap.size) : Box5 w' g a b c d e :=
  ⟨(World.cell?_of_block (w := w) hk).trans h.1, (World.cell?_of_block (w := w) hk).trans h.2.1, (World.cell?_of_block (w := w) hk).trans h.2.2.1, (World.cell?_of_block (w := w) hk).trans h.2.2.2.1, (World.cell?_of_block (w := w) hk).trans h.2.2.2.2.1, (World.frozen?_of_block (w := w) hk).trans h.2.2.2.2.2.1, (World.frozen?_of_block (w := w) hk).trans h.2.2.2.2.2.2.1, (World.frozen?_of_block (w := w) hk).trans h.2.2.2.2.2.2.2.1, (World.frozen?_of_block (w := w) hk).trans h.2.2.2.2.2.2.2.2.1, (World.frozen?_of_block (w := w) hk).trans h.2.2.2.2.2.2.2.2.2.1, hs⟩
theorem Box5.below {w w' : World} {g : Nat} {a b c d e : Value} (h : Box5 w g a b c d e) (hb : Below w.heap.size w w') : Box5 w' g a b c d e := h.kept (hb.block g h.lt) (by have := hb.size; have := h.lt; omega)
theorem Box5.belowAt {w w' : World} {g B : Nat} {a b c d e : Value} (h : Box5 w g a b c d e) (hb : Below B w w') (hg : g < B) : Box5 w' g a b c d e := h.kept (hb.block g hg) (by have := hb.size; have := h.lt; omega)
theorem Box5.grown {w w' : World} {g : Nat} {a b c d e : Value} {row : Option Nat} (h : Box5 w g a b c d e) (hg : w.grownBy w' row) (hne : row ≠ some g) : Box5 w' g a b c d e := h.kept (hg.block g h.lt (fun e => hne e.symm)) (by have := hg.size; have := h.lt; omega)
theorem Box5.alloc {w : World} {g : Nat} {a b c d e : Value} (h : Box5 w g a b c d e) (o : Obj) : Box5 (w.alloc o) g a b c d e := h.kept (Below.heap_alloc w o g h.lt) (by have := h.lt; simp; omega)
theorem Box5.set0 {w : World} {g : Nat} {a b c d e : Value} (h : Box5 w g a b c d e) (z : Value) : Box5 (w.setCell ⟨g, 0, none⟩ z) g z b c d e ∧ w.grownBy (w.setCell ⟨g, 0, none⟩ z) (some g) := by
  obtain ⟨h0, h1, h2, h3, h4, h5, h6, h7, h8, h9, h10⟩ := h
  exact ⟨⟨by go_simp, by go_simp, by go_simp, by go_simp, by go_simp, by go_simp, by go_simp, by go_simp, by go_simp, by go_simp, by simpa [World.setCell] using h10⟩, grown_set _ _ _ _⟩
theorem Box5.set1 {w : World} {g : Nat} {a b c d e : Value} (h : Box5 w g a b c d e) (z : Value) : Box5 (w.setCell ⟨g, 1, none⟩ z) g a z c d e ∧ w.grownBy (w.setCell ⟨g, 1, none⟩ z) (some g) := by
  obtain ⟨h0, h1, h2, h3, h4, h5, h6, h7, h8, h9, h10⟩ := h
  exact ⟨⟨by go_simp, by go_simp, by go_simp, by go_simp, by go_simp, by go_simp, by go_simp, by go_simp, by go_simp, by go_simp, by simpa [World.setCell] using h10⟩, grown_set _ _ _ _⟩
theorem Box5.set2 {w : World} {g : Nat} {a b c d e : Value} (h : Box5 w g a b c d e) (z : Value) : Box5 (w.setCell ⟨g, 2, none⟩ z) g a b z d e ∧ w.grownBy (w.setCell ⟨g, 2, none⟩ z) (some g) := by
  obtain ⟨h0, h1, h2, h3, h4, h5, h6, h7, h8, h9, h10⟩ := h
  exact ⟨⟨by go_simp, by go_simp, by go_simp, by go_simp, by go_simp, by go_simp, by go_simp, by go_simp, by go_simp, by go_simp, by simpa [World.setCell] using h10⟩, grown_set _ _ _ _⟩
theorem Box5.set3 {w : World} {g : Nat} {a b c d e : Value} (h : Box5 w g a b c d e) (z : Value) : Box5 (w.setCell ⟨g, 3, none⟩ z) g a b c z e ∧ w.grownBy (w.setCell ⟨g, 3, none⟩ z) (some g) := by
  obtain ⟨h0, h1, h2, h3, h4, h5, h6, h7, h8, h9, h10⟩ := h
  exact ⟨⟨by go_simp, by go_simp, by go_simp, by go_simp, by go_simp, by go_simp, by go_simp, by go_simp, by go_simp, by go_simp, by simpa [World.setCell] using h10⟩, grown_set _ _ _ _⟩
theorem Box5.set4 {w : World} {g : Nat} {a b c d e : Value} (h : Box5 w g a b c d e) (z : Value) : Box5 (w.setCell ⟨g, 4, none⟩ z) g a b c d z ∧ w.grownBy (w.setCell ⟨g, 4, none⟩ z) (some g) := by
  obtain ⟨h0, h1, h2, h3, h4, h5, h6, h7, h8, h9, h10⟩ := h
  exact ⟨⟨by go_simp, by go_simp, by go_simp, by go_simp, by go_simp, by go_simp, by go_simp, by go_simp, by go_simp, by go_simp, by simpa [World.setCell] using h10⟩, grown_set _ _ _ _⟩
theorem below_grown_rowP {B : Nat} {w w1 w2 : World} {row : Option Nat} (h : Below B w w1) (hg : w1.grownBy w2 row) (hB : B ≤ w1.heap.size) (hr : ∀ k, row = some k → B ≤ k) : Below B w w2 :=
  h.trans ⟨hg.os, hg.tape, hg.output, hg.size, fun k hk => hg.block k (by omega) (fun e => by have := hr k e.symm; omega)⟩
theorem Box.belowAt {w w' : World} {g B : Nat} {a b : Value} (h : Box w g a b) (hb : Below B w w') (hg : g < B) : Box w' g a b := h.kept (hb.block g hg) (by have := hb.size; have := h.2.2.2.2; omega)
end Go.Proofs.YtefmoljipbbmmaaDoor
/- Contracts of the program's proofs by cases: the grounds of a story. -/
namespace Go.Proofs.YtefmoljipbbmmaaDoor
open Go.RowKit Go.Joins
theorem clT_take {p : Int} {s : List Cl} {j : Nat} (hj : j < s.length) : (clT p s).take (j + 1) = (clT p s).take j ++ [ctabN p (s.getD j (0, []))] := by
  have hl : j < (clT p s).length := by rw [clT_len]; exact hj
  rw [List.take_succ_eq_append_getElem hl]
  congr 1
  simp only [clT, List.getElem_map, List.getD, List.getElem?_eq_getElem hj, Option.getD_some]
def intsN (zs : List Nat) : List Value := zs.map fun z : Nat => Value.int .i64 z
theorem intsN_len (zs : List Nat) : (intsN zs).length = zs.length := by simp [intsN]
theorem intsN_snoc (zs : List Nat) (z : Nat) : intsN (zs ++ [z]) = intsN zs ++ [.int .i64 z] := by simp [intsN]
theorem RdTabs.of_own {w : World} {base : Nat} {e : TypeId} {v : Value} {zs : List Nat} (h : w.ownsRow base e 1 v zs.length (intsN zs)) (h6 : zs.length ≤ 6) (hz : ∀ j, zs.getD j 0 < 65536) : RdTabs w w.heap.size v zs := by
  refine ⟨?_, h6, hz⟩
  have e1 : intsN zs = (zs.map fun z : Nat => (z : Int)).map (Value.int .i64) := by simp [intsN]
  rw [e1] at h
  have h2 : w.ownsRow base e 1 v (zs.map fun z : Nat => (z : Int)).length ((zs.map fun z : Nat => (z : Int)).map (Value.int .i64)) := by rw [List.length_map]; exact h
  exact RdInts.of_own h2
attribute [local irreducible] holds tabN tabV holdsV sameV followsV alwaysV matterV claimOk mayT mayV ctabV ctabN storyV storyOk storyN storyT ctermV ctermL clT intsN
set_option maxRecDepth 100000 in
set_option maxHeartbeats 4000000 in
theorem implGroundsOf (p : Int) (qs : List QC) (ms : List (Int × Int)) (hok : storyOk p (qs.map (·.2)) = true) (ht : termOk p ms = true) (B : Nat) (v u : Value) (w : World) (hr : RdStory w B v qs) (hr' : RdMarks w B u ms) (hB : B ≤ w.heap.size) :
    Calls Tryd.prog 47 #[.int .i64 p, v, u] w fun e w' => ∃ cv, e = .returned (gv p (tabN p ms) cv) ∧ w'.ownsRow w.heap.size 3 1 cv (clT p (qs.map (·.2))).length (intsN (clT p (qs.map (·.2)))) ∧ Below w.heap.size w w' := by
  obtain ⟨h1, h4⟩ := p_of ht
  have hn6 : qs.length ≤ 6 := by have := (storyOk_iff.1 hok).2.2; rwa [List.length_map] at this
  have Htab := Lib.hid (fun w h hB => implTableOf p ms B u w h hB)
  rw [tabV_N ht] at Htab
  have Hct : Hid (∀ j, j < qs.length → ∀ (B' : Nat) (y : Value) w, RdMarks w B' y (qs.getD j qc0).2.2 → B' ≤ w.heap.size → Calls Tryd.prog 63 #[.int .i64 p, .agg #[.int .i64 (qs.getD j qc0).2.1, y]] w fun e w' => e = .returned (.int .i64 (ctabN p (qs.getD j qc0).2)) ∧ Below w.heap.size w w') := fun j hj B' y w h hB => by
    have e : qs.getD j qc0 = qs[j] := by simp [List.getD, hj]
    have hc := (storyOk_iff.1 hok).1 qs[j].2 (List.mem_map.2 ⟨_, List.getElem_mem hj, rfl⟩)
    rw [← e] at hc
    have := implClaimTable p (qs.getD j qc0).2.1 (qs.getD j qc0).2.2 B' y w h hB
    rw [ctabV_yes hc] at this
    exact this
  have Htk : Hid (∀ j, j < qs.length → (clT p (qs.map (·.2))).take (j + 1) = (clT p (qs.map (·.2))).take j ++ [ctabN p (qs.getD j qc0).2]) := fun j hj => by
    rw [clT_take (by rw [List.length_map]; exact hj)]
    have : (qs.map (·.2)).getD j (0, []) = (qs.getD j qc0).2 := by simp [List.getD, hj]
    rw [this]
  have hZl : (clT p (qs.map (·.2))).length = qs.length := by rw [clT_len, List.length_map]
  have HZb := Lib.hid (clT_lt (s := qs.map (·.2)) h1 h4)
  generalize clT p (qs.map (·.2)) = Z at *
  generalize ctabN p = CT at *
  have hM := tabN_lt ht
  generalize tabN p ms = M at *
  obtain ⟨ii, hii, hz0, hz1, hz2⟩ := info_parts Tryd.infoInt
  have Ii := Lib.hid hii; clear hii
  have Iz0 := Lib.hid hz0; clear hz0
  have Iz1 := Lib.hid hz1; clear hz1
  have Iz2 := Lib.hid hz2; clear hz2
  clear hok ht hM h1 h4
  have Hr := Lib.hid hr
  have Hm := Lib.hid hr'
  obtain ⟨ao, cap, rfl, hl, hm, _, hac0⟩ := hr
  have hac := Lib.hid hac0; clear hac0 hr'
  unfold maxLen at hm
  have HZl := Lib.hid hZl; clear hZl
  obtain ⟨wo, rfl⟩ : ∃ wo : World, wo = w := ⟨_, rfl⟩
  obtain ⟨w1, hw1, hx1, hb1, hs1⟩ := Box3.new wo (.int .i64 0) (.int .i64 0) (.slice none 0 0) 89
  have Hx1 := Lib.hid hx1
  have Hb1 := Lib.hid hb1
  have Hs1 := Lib.hid hs1
  have Hm1 := Lib.hid (Hm.out.below (w' := w1) (fun q hq => hb1.block q (by omega)))
  have hB1 : B ≤ w1.heap.size := by omega
  clear hb1 hs1 Hm hx1
  go_enter Tryd.func47, Tryd.ntmps47
  go_upto_region 1 with fail
  rw [← hw1]
  clear hw1
  go_wp2_with fail
  refine (Htab.out _ Hm1.out hB1).mono ?_
  rintro e w2 ⟨rfl, hb2⟩
  have hs2 := hb2.size
  obtain ⟨w3, hw3, hx3, hb3, hs3⟩ := Box3.new w2 (.int .i64 p) (.int .i64 M) (.slice none 0 0) 89
  have hs1 := Hs1.out
  have Hx13 := Lib.hid ((Hx1.out.belowAt hb2 Hx1.out.lt).belowAt hb3 (Nat.lt_of_lt_of_le Hx1.out.lt hs2))
  have hb03 : Below wo.heap.size wo w3 := (Hb1.out.trans (hb2.mono (by omega))).trans (hb3.mono (by omega))
  have Hb3 := Lib.hid hb03
  have Hx3 := Lib.hid hx3
  have hle3 : wo.heap.size < w2.heap.size := by omega
  have Hs3 := Lib.hid hs3
  obtain ⟨S, hS⟩ : ∃ S, S = w2.heap.size := ⟨_, rfl⟩
  rw [← hS] at Hx3 Hs3 hle3
  clear hb2 hb3 hb03 hs2 hs1 hx3 Hx1 hs3 Htab Hm1 Hb1
  go_upto_region 2 with fail
  rw [← hw3, ← hS]
  clear hw3 hS
  go_wp2
  go_loopw [9, 17] (fun _ i wr => ∃ (j : Nat) (cv : Value), j ≤ qs.length ∧ i = .int .i64 j ∧ Box3 wr S (.int .i64 p) (.int .i64 M) cv ∧ Box3 wr wo.heap.size (.int .i64 0) (.int .i64 0) (.slice none 0 0) ∧ wr.ownsRow (S + 1) 3 1 cv j (intsN (Z.take j)) ∧ Below wo.heap.size wo wr) (fun _ i _ => qs.length - (intOf i).toNat)
  case atStart => exact ⟨0, .slice none 0 0, Nat.zero_le _, rfl, Hx3.out, Hx13.out, by rw [List.take_zero]; unfold intsN; exact World.ownsRow_nil _ _ _ _, Hb3.out⟩
  case round =>
    clear Hx3 Hx13 Hb3
    obtain ⟨j, cv, hj, rfl, hx, hx0, hown, hbr⟩ := hrel
    by_cases hlt : j < qs.length
    · obtain ⟨b, off, rfl, hb, hc1, hc2⟩ := hac.out j hlt
      rw [← hbr.cell (p := ⟨b, _, none⟩) (show b < _ by omega)] at hc1 hc2
      have hsr := hbr.size
      have hmk := (Hr.out.get hlt).1.below (w' := wr) (fun q hq => hbr.block q (by omega))
      have Htk' := Lib.hid (Htk.out j hlt)
      have Hct' := Lib.hid (Hct.out j hlt)
      generalize qs.getD j qc0 = z at *
      obtain ⟨y, k, ms'⟩ := z
      dsimp only at hc1 hc2 hmk
      obtain ⟨yo, yc, rfl⟩ : ∃ yo yc, y = .slice yo ms'.length yc := by
        obtain ⟨a, c, h, _⟩ := hmk
        exact ⟨a, c, h⟩
      obtain ⟨w5, hw5, hx5, hb5, hs5⟩ := Box.new wr (.int .i64 k) (.slice yo ms'.length yc) 56
      have hxS := hx.belowAt hb5 hx.lt
      have Hx0 := Lib.hid (hx0.belowAt hb5 hx0.lt)
      have Hmk := Lib.hid (hmk.below (w' := w5) (fun q hq => hb5.block q (by omega)))
      have Hown := Lib.hid (own_below hown hb5)
      have Hbr := Lib.hid (hbr.trans (hb5.mono hsr))
      have hSr := hx.lt
      have hBr : B ≤ w5.heap.size := by omega
      have Hx5 := Lib.hid hx5
      have HxS := Lib.hid hxS
      obtain ⟨co, cc, hcv⟩ := own_len hown
      subst hcv
      have hS5 : S + 1 ≤ w5.heap.size := by omega
      have hj6 : j ≤ 6 := by omega
      clear hx hx0 hmk hown hbr hb5 hs5 hn6
      go_upto_region 5 with fail
      rw [← hw5]
      clear hw5 hc1 hc2
      obtain ⟨a1, a2, a3, a4, a5, a6, a7⟩ := hxS
      obtain ⟨d1, d2, d3, d4, d5⟩ := hx5
      go_region_law
        (first
          | (refine app_own (by rfl) (.tmp 22) (.tmp 26) 80 3 (S + 1) 1 8 (.int .i64 0) (by rfl) Tryd.underlying80 Ii.out Iz0.out Iz1.out Iz2.out rfl (by decide) (by rfl) (by rfl) (by first | exact Ho6.out.alloc _ | exact own_drewU (Ho6.out.alloc _) _) (m := 1) (news := [.int .i64 (CT (k, ms'))]) (by rfl) (by first | exact (cell_one_new _ _ _)) (by simp [Value.oneCell']) (by unfold maxLen; omega) (by omega) (by simp; omega) ?_
             go_must (intro v7 w7 hown7 hgr7 _
                      have hgr : (w6.alloc (.cells #[.int .i64 (CT (k, ms'))] 3)).grownBy w7 (Value.slice co j cc).ownBlock := by first | exact hgr7 | exact grownBy_drew0 hgr7 | exact grownBy_drewX hgr7
                      obtain ⟨f7, c7, hv7⟩ := own_len hown7
                      subst hv7
                      have hxs := (HxS6.out.alloc (.cells #[.int .i64 (CT (k, ms'))] 3)).grown hgr (fun e => by have := (Ho6.out.lt _ e).1; omega)
                      have HxS7 := Lib.hid hxs
                      obtain ⟨p1, p2, p3, p4, p5, p6, p7⟩ := hxs
                      have Hx07 := Lib.hid ((Hx06.out.alloc (.cells #[.int .i64 (CT (k, ms'))] 3)).grown hgr (fun e => by have := (Ho6.out.lt _ e).1; omega))
                      have Hb7 := Lib.hid (below_grown_rowP (w1 := w6.alloc (.cells #[.int .i64 (CT (k, ms'))] 3)) (Hb6.out.alloc (by omega) _) hgr (by simp; omega) (fun q hq => by have := (Ho6.out.lt q hq).1; omega))
                      have Ho7 := Lib.hid hown7
                      clear hown7 hgr7 hgr t1 t2 t3))
          | (go_simp
             go_at_call 63
             refine (Hct'.out _ _ _ (by exact Hmk.out) (by exact hBr)).mono ?_
             rintro e w6 ⟨rfl, hb6'⟩
             have hb6 : Below w5.heap.size w5 w6 := by first | exact hb6' | exact below_undrewS hb6' | exact below_undrewN hb6'
             go_must (have hs6 := hb6.size
                      have hxs := HxS.out.below hb6
                      have HxS6 := Lib.hid hxs
                      obtain ⟨t1, t2, t3, _, _, _, _⟩ := hxs
                      have Hx06 := Lib.hid (Hx0.out.below hb6)
                      have Ho6 := Lib.hid (own_below Hown.out hb6)
                      have hs6' : wo.heap.size ≤ w6.heap.size := by omega
                      have hs6S : S + 1 ≤ w6.heap.size := by omega
                      have Hb6 := Lib.hid (Hbr.out.trans (hb6.mono (by omega)))
                      clear hb6 hb6' hs6))
          | fail)
      all_goals
        obtain ⟨hxs8, hg8⟩ := HxS7.out.set2 (.slice f7 (j + 1) c7)
        have HxS8 := Lib.hid hxs8
        have Hx08 := Lib.hid (Hx07.out.grown hg8 (by intro e; cases e; omega))
        have Ho8 := Lib.hid (own_row Ho7.out hg8 (by omega))
        have Hb8 := Lib.hid (below_grown_rowP Hb7.out hg8 (by omega) (fun q hq => by cases hq; omega))
        generalize w7.setCell ⟨S, 2, none⟩ (.slice f7 (j + 1) c7) = w8 at *
        clear p1 p2 p3 p4 p5 p6 p7 hg8 hxs8
        go_wp2
        go_roundw
        case rel => exact ⟨j + 1, _, by omega, by go_num, HxS8.out, Hx08.out, by rw [Htk'.out, intsN_snoc]; exact Ho8.out, Hb8.out⟩
        case measure => simp [intOf]; omega
    · obtain rfl : j = qs.length := by omega
      have hsr := hbr.size
      rw [List.take_of_length_le (by rw [HZl.out]; omega)] at hown
      have Hown := Lib.hid hown
      have Hbr := Lib.hid hbr
      obtain ⟨co, cc, hcv⟩ := own_len hown
      subst hcv
      obtain ⟨hx01, hg1⟩ := hx0.set0 (.int .i64 p)
      obtain ⟨hx02, hg2⟩ := hx01.set1 (.int .i64 M)
      obtain ⟨hx03, hg3⟩ := hx02.set2 (.slice co qs.length cc)
      have hg : wr.grownBy (((wr.setCell ⟨wo.heap.size, 0, none⟩ (.int .i64 p)).setCell ⟨wo.heap.size, 1, none⟩ (.int .i64 M)).setCell ⟨wo.heap.size, 2, none⟩ (.slice co qs.length cc)) (some wo.heap.size) := grown_trans (grown_trans hg1 hg2) hg3
      have Hb8 := Lib.hid (below_grown_rowP Hbr.out hg (by omega) (fun q hq => by cases hq; omega))
      have Ho8 := Lib.hid (own_row Hown.out hg (by omega))
      obtain ⟨a1, a2, a3, a4, a5, a6, a7⟩ := hx
      obtain ⟨z1, z2, z3, z4, z5, z6, z7⟩ := hx0
      obtain ⟨y1, y2, y3, y4, y5, y6, y7⟩ := hx03
      have Y1 := Lib.hid y1
      have Y2 := Lib.hid y2
      have Y3 := Lib.hid y3
      clear hg1 hg2 hg3 hg hx01 hx02 hown hbr y1 y2 y3 y4 y5 y6 y7
      go_upto_region 8 with fail
      generalize ((wr.setCell ⟨wo.heap.size, 0, none⟩ (.int .i64 p)).setCell ⟨wo.heap.size, 1, none⟩ (.int .i64 M)).setCell ⟨wo.heap.size, 2, none⟩ (.slice co qs.length cc) = w9 at *
      have y1 := Y1.out
      have y2 := Y2.out
      have y3 := Y3.out
      go_wp2
      refine bodyPost_ret (v := gv p M (.slice co qs.length cc)) (by simp [results, Tryd.results47, go_sem, y1, y2, y3]) rfl ⟨_, rfl, ?_, Hb8.out⟩
      rw [HZl.out]
      exact own_mono Ho8.out (by omega)
end Go.Proofs.YtefmoljipbbmmaaDoor

/- Contracts of what the laws do with stories. -/
import Derived.Test.YtobbbmcppmohoaaClaimE
import Derived.Test.YtobbbmcppmohoaaTruthT
namespace Go.Proofs.Ytobbbmcppmohoaa
open Go.RowKit Go.Joins
theorem below_drewR {B : Nat} {a w : World} (h : Below B a w) : Below B a w.drew := h.trans ⟨rfl, rfl, rfl, Nat.le_refl _, fun _ _ => rfl⟩
theorem same_len {xs ys : List QC} (h : xs.map (·.2) = ys.map (·.2)) : xs.length = ys.length := by
  have := congrArg List.length h
  simpa using this
theorem same_at {xs ys : List QC} (h : xs.map (·.2) = ys.map (·.2)) (j : Nat) : (xs.getD j qc0).2 = (ys.getD j qc0).2 := by
  have := congrArg (fun l => l.getD j qc0.2) h
  simpa [List.getD_eq_getElem?_getD, List.getElem?_map, Option.getD_map] using this
set_option maxRecDepth 100000 in
set_option maxHeartbeats 2000000 in
theorem eqClaimS (xs ys : List QC) (he : xs.map (·.2) = ys.map (·.2)) (B B' : Nat) (a b : Value) (w : World) (hx : RdStory w B a xs) (hy : RdStory w B' b ys) (hB : B ≤ w.heap.size) (hB' : B' ≤ w.heap.size) :
    Calls Try.prog 53 #[a, b] w fun e w' => e = .returned (.bool true) ∧ Below w.heap.size w w' := by
  have hlen := same_len he
  have Hat := Lib.hid (fun j => same_at he j)
  have Hx := Lib.hid hx
  have Hy := Lib.hid hy
  obtain ⟨ao, acap, rfl, hal, ham, _, hac0⟩ := hx
  obtain ⟨bo, bcap, rfl, hbl, hbm, _, hbc0⟩ := hy
  have hac := Lib.hid hac0; clear hac0
  have hbc := Lib.hid hbc0; clear hbc0
  unfold maxLen at ham hbm
  have hbc1 : Hid (∀ (j : Nat), j < xs.length → ∃ b off, bo = some ⟨b, off, none⟩ ∧ b < B' ∧ w.cell? ⟨b, off + j * 2, none⟩ = some (.int .i64 (ys.getD j qc0).2.1) ∧ w.cell? ⟨b, off + j * 2 + 1, none⟩ = some (ys.getD j qc0).1) := fun j hj => hbc.out j (by omega)
  have Hy1 : Hid (∀ (j : Nat), j < xs.length → RdMarks w B' (ys.getD j qc0).1 (ys.getD j qc0).2.2) := fun j hj => (Hy.out.get (by omega)).1
  rw [← hlen] at hbl ⊢
  clear hlen hbc Hy he
  obtain ⟨wo, rfl⟩ : ∃ wo : World, wo = w := ⟨_, rfl⟩
  go_enter Try.func53, Try.ntmps53
  go_wp2
  go_loopw [5] (fun i wr => ∃ k : Nat, k ≤ xs.length ∧ i = .int .i64 k ∧ Below wo.heap.size wo wr) (fun i _ => xs.length - (intOf i).toNat)
  case atStart => exact ⟨0, Nat.zero_le _, rfl, Below.refl _ _⟩
  case round =>
    obtain ⟨j, hj, rfl, hbel⟩ := hrel
    by_cases hlt : j < xs.length
    · obtain ⟨b1, o1, rfl, hb1, hc1, hc1'⟩ := hac.out j hlt
      obtain ⟨b2, o2, rfl, hb2, hc2, hc2'⟩ := hbc1.out j hlt
      rw [← hbel.cell (p := ⟨b1, _, none⟩) (show b1 < _ by omega)] at hc1 hc1'
      rw [← hbel.cell (p := ⟨b2, _, none⟩) (show b2 < _ by omega)] at hc2 hc2'
      have hm1 := (Hx.out.get hlt).1.below (w' := wr) (fun q hq => hbel.block q (by omega))
      have hm2 := (Hy1.out j hlt).below (w' := wr) (fun q hq => hbel.block q (by omega))
      have heq := Hat.out j
      generalize xs.getD j qc0 = z at *
      generalize ys.getD j qc0 = z' at *
      obtain ⟨u, c⟩ := z
      obtain ⟨u', c'⟩ := z'
      dsimp only at heq
      subst heq
      obtain ⟨k, ms⟩ := c
      dsimp only at hc1 hc1' hc2 hc2' hm1 hm2
      have Hm1 := Lib.hid hm1
      have Hm2 := Lib.hid hm2
      have hBr : B ≤ wr.heap.size := by have := hbel.size; omega
      have hBr' : B' ≤ wr.heap.size := by have := hbel.size; omega
      have Hbel := Lib.hid hbel
      have hij1 : (0 : Int) ≤ (j : Int) := by omega
      have hij2 : (j : Int) < (xs.length : Int) := by omega
      clear hm1 hm2 hbel
      go_wp2_with fail
      go_region_held3 (fun w' => w'.cell? ⟨b1, o1 + j * 2, none⟩ = some (.int .i64 k) ∧ w'.cell? ⟨b1, o1 + j * 2 + 1, none⟩ = some u ∧ w'.cell? ⟨b2, o2 + j * 2, none⟩ = some (.int .i64 k) ∧ w'.cell? ⟨b2, o2 + j * 2 + 1, none⟩ = some u')
        (first | (refine ⟨?_, ?_, ?_, ?_⟩ <;> first | go_keep | assumption) | assumption)
        (first
          | (go_at_call 50
             (with_reducible refine (eqClaim k ms B B' u u' _ ?_ ?_ ?_ ?_).mono ?_)
             · exact Hm1.out
             · exact Hm2.out
             · exact hBr
             · exact hBr'
             rintro e wn ⟨rfl, hbn'⟩
             go_must (have hbn : Below wr.heap.size wr wn := by first | exact hbn' | exact below_undrewS hbn' | exact below_undrewN hbn'
                      clear hbn'
                      have d1 := (hbn.cell (p := ⟨b1, o1 + j * 2, none⟩) (show b1 < _ by omega)).trans hc1
                      have d2 := (hbn.cell (p := ⟨b1, o1 + j * 2 + 1, none⟩) (show b1 < _ by omega)).trans hc1'
                      have d3 := (hbn.cell (p := ⟨b2, o2 + j * 2, none⟩) (show b2 < _ by omega)).trans hc2
                      have d4 := (hbn.cell (p := ⟨b2, o2 + j * 2 + 1, none⟩) (show b2 < _ by omega)).trans hc2'
                      have Hbn := Lib.hid (Hbel.out.trans (hbn.mono Hbel.out.size))
                      clear hbn))
          | fail)
      go_wp2
      go_roundw
      case rel => exact ⟨j + 1, by omega, by go_num, by first | exact Hbn.out | exact below_drewR Hbn.out | exact below_drewN Hbn.out _⟩
      case measure => simp [intOf]; omega
    · obtain rfl : j = xs.length := by omega
      have Hbel := Lib.hid hbel; clear hbel
      go_wp2
      go_ret
      exact ⟨rfl, Hbel.out⟩
end Go.Proofs.Ytobbbmcppmohoaa

/- Contracts of the laws' own comparisons of rows of rows of numbers. -/
import Derived.Test.YtnkgbolgcmjadaaIntRows
import Derived.OwnWalk
import Derived.Deep.RegionHeld3
import Derived.Deep.RegionWith
namespace Go.Proofs.Ytnkgbolgcmjadaa
open Go.RowKit Go.Joins
theorem rows_getD8 (rs : List RW) (k : Nat) : (rs.map (·.2)).getD k [] = (rs.getD k rw0).2 := by
  by_cases h : k < rs.length
  · simp [List.getD, h]
  · simp [List.getD, show rs.length ≤ k by omega, rw0]
theorem rows_eq8 {rs ss : List RW} (hl : rs.length = ss.length) (h : ∀ j, j < rs.length → (rs.getD j rw0).2 = (ss.getD j rw0).2) : rs.map (·.2) = ss.map (·.2) := by
  refine List.ext_getElem (by simpa using hl) fun j h1 h2 => ?_
  rw [List.length_map] at h1 h2
  have := h j h1
  simpa [List.getD, h1, h2] using this
set_option maxRecDepth 100000 in
set_option maxHeartbeats 1000000 in
theorem sameRows (rs ss : List RW) (B B' : Nat) (a b : Value) (w : World) (hx : RdRows w B a rs) (hy : RdRows w B' b ss) :
    Calls Try.prog 36 #[a, b] w fun e w' => e = .returned (.bool (decide (rs.map (·.2) = ss.map (·.2)))) ∧ ∃ n, w.drewN n = w' := by
  have Hx := Lib.hid hx
  have Hy := Lib.hid hy
  obtain ⟨ao, acap, rfl, hal, ham, _, hac0⟩ := hx
  obtain ⟨bo, bcap, rfl, hbl, hbm, _, hbc0⟩ := hy
  have hac := Lib.hid hac0; clear hac0
  have hbc := Lib.hid hbc0; clear hbc0
  unfold maxLen at ham hbm
  by_cases hlen : rs.length = ss.length
  · have Hl := Lib.hid hlen
    have hbc1 : Hid (∀ (j : Nat), j < rs.length → ∃ b off, bo = some ⟨b, off, none⟩ ∧ b < B' ∧ w.cell? ⟨b, off + j, none⟩ = some (ss.getD j rw0).1) := fun j hj => hbc.out j (by omega)
    rw [← hlen] at hbl ⊢
    clear hlen hbc
    go_enter Try.func36, Try.ntmps36
    go_wp2
    go_loopw [5] (fun i wr => ∃ k : Nat, k ≤ rs.length ∧ i = .int .i64 k ∧ Hid (∀ j, j < k → (rs.getD j rw0).2 = (ss.getD j rw0).2) ∧ ∃ n, w.drewN n = wr) (fun i _ => rs.length - (intOf i).toNat)
    case atStart => exact ⟨0, Nat.zero_le _, rfl, fun j hj => by omega, 0, rfl⟩
    case round =>
      obtain ⟨k, hk, rfl, hall, nd, rfl⟩ := hrel
      by_cases hlt : k < rs.length
      · obtain ⟨b1, o1, rfl, _, hc1⟩ := hac.out k hlt
        obtain ⟨b2, o2, rfl, _, hc2⟩ := hbc1.out k hlt
        have hr1 := Hx.out.get hlt
        have hr2 := Hy.out.get (show k < ss.length by have := Hl.out; omega)
        have Hne : Hid ((rs.getD k rw0).2 ≠ (ss.getD k rw0).2 → decide (rs.map (·.2) = ss.map (·.2)) = false) := fun h => by
          rw [decide_eq_false_iff_not]; intro e
          apply h
          rw [← rows_getD8, ← rows_getD8, e]
        have Hall : Hid ((rs.getD k rw0).2 = (ss.getD k rw0).2 → ∀ j, j < k + 1 → (rs.getD j rw0).2 = (ss.getD j rw0).2) := fun h j hj => by
          by_cases hjk : j < k
          · exact hall.out j hjk
          · obtain rfl : j = k := by omega
            exact h
        generalize rs.getD k rw0 = q at *
        generalize ss.getD k rw0 = q' at *
        obtain ⟨u1, xs⟩ := q
        obtain ⟨u2, ys⟩ := q'
        dsimp only at hr1 hr2 hc1 hc2
        have Hr1 := Lib.hid hr1
        have Hr2 := Lib.hid hr2
        obtain ⟨f1, c1, rfl, _, _, _⟩ := hr1
        obtain ⟨f2, c2, rfl, _, _, _⟩ := hr2
        have Hn1 : Hid (xs ≠ ys → decide (rs.map (·.2) = ss.map (·.2)) = false) := Hne.out
        have Ha1 : Hid (xs = ys → ∀ j, j < k + 1 → (rs.getD j rw0).2 = (ss.getD j rw0).2) := Hall.out
        clear Hne Hall
        have Hcall := Lib.hid (fun n => sameInts xs ys B B' _ _ (w.drewN n) Hr1.out Hr2.out)
        by_cases he : xs = ys
        · have Hs := Lib.hid (Ha1.out he)
          rw [show decide (xs = ys) = true from decide_eq_true he] at Hcall
          clear he Hn1 Ha1
          go_wp2_with fail
          first
            | (refine (Hcall.out _).mono ?_
               rintro e w' ⟨rfl, nd2, rfl⟩)
            | go_region_with (go_at_call 20; refine (Hcall.out _).mono ?_; rintro e w' ⟨rfl, nd2, rfl⟩)
          all_goals
            go_wp2
            go_roundw
            case rel => exact ⟨k + 1, by omega, by go_num, Hs.out, by first | exact ⟨_, rfl⟩ | exact ⟨_, (World.drewN_drewN _ _ _).symm⟩⟩
            case measure => simp [intOf]; omega
        · have Hf := Lib.hid (Hn1.out he)
          rw [show decide (xs = ys) = false from decide_eq_false he] at Hcall
          clear he Hn1 Ha1
          go_wp2_with fail
          first
            | (refine (Hcall.out _).mono ?_
               rintro e w' ⟨rfl, nd2, rfl⟩)
            | go_region_with (go_at_call 20; refine (Hcall.out _).mono ?_; rintro e w' ⟨rfl, nd2, rfl⟩)
          all_goals
            go_wp2
            go_ret
            exact ⟨ret_bool (by rw [Hf.out]), by first | exact ⟨_, rfl⟩ | exact ⟨_, (World.drewN_drewN _ _ _).symm⟩⟩
      · obtain rfl : k = rs.length := Nat.le_antisymm hk (Nat.le_of_not_lt hlt)
        have hdec : Hid (decide (rs.map (·.2) = ss.map (·.2)) = true) := by
          unfold Hid; rw [decide_eq_true_eq]
          exact rows_eq8 Hl.out hall.out
        go_wp2
        go_ret
        exact ⟨ret_bool (by rw [hdec.out]), nd, rfl⟩
  · have hb : ((rs.length : Int) != (ss.length : Int)) = true := by rw [bne_iff_ne]; omega
    have hdec : Hid (decide (rs.map (·.2) = ss.map (·.2)) = false) := by
      unfold Hid; rw [decide_eq_false_iff_not]; intro e
      have := congrArg List.length e
      rw [List.length_map, List.length_map] at this
      exact hlen this
    clear hlen
    go_enter Try.func36, Try.ntmps36
    go_wp2
    go_ret
    exact ⟨ret_bool (by rw [hdec.out]), 0, rfl⟩
end Go.Proofs.Ytnkgbolgcmjadaa

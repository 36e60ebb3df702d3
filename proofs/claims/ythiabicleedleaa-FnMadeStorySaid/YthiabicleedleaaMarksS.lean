/- Contract of the reference model's test of a term. -/
import Derived.Test.YthiabicleedleaaMarks
namespace Go.Proofs.Ythiabicleedleaa
open Go.RowKit

set_option maxRecDepth 100000 in
set_option maxHeartbeats 2000000 in
theorem specTermOk (p : Int) (ms : List (Int × Int)) (B : Nat) (v : Value) (w : World) (hr : RdMarks w B v ms) :
    Calls Try.prog 64 #[.int .i64 p, v] w fun e w' => e = .returned (.bool (termOk p ms)) ∧ w = w' := by
  obtain ⟨ao, cap, rfl, hal, ham, hi0, hac0⟩ := hr
  have hac := Lib.hid hac0; clear hac0
  have hi := Lib.hid hi0; clear hi0
  unfold maxLen at ham
  go_enter Try.func64, Try.ntmps64
  go_wp2_with fail
  go_loop [5, 6] (fun n i => ∃ (k : Nat) (s : List Tm), k ≤ ms.length ∧ i = .int .i64 k ∧ Hid (runS p (ms.take k) [] = some s) ∧ n = .int .i64 s.length)
    (fun _ i => ms.length - (intOf i).toNat)
  case atStart => exact ⟨0, [], Nat.zero_le _, rfl, rfl, rfl⟩
  case round =>
    obtain ⟨k, s, hk, rfl, hs, rfl⟩ := hrel
    have hsl := runS_len hk hs.out
    by_cases hlt : k < ms.length
    · obtain ⟨b, off, rfl, hb, hc1, hc2⟩ := hac.out k hlt
      have hsucc := Lib.hid (runS_take_succ p ms k hlt hs.out)
      obtain ⟨⟨hk1, hk2⟩, hx1, hx2⟩ := hi.out.get hlt
      generalize ms.getD k (0, 0) = m at *
      obtain ⟨kd, x⟩ := m
      dsimp only at hc1 hc2 hk1 hk2 hx1 hx2
      by_cases h05 : 0 ≤ kd ∧ kd ≤ 5
      case neg =>
        obtain ⟨h0, h1, h2, h3, h4, h5⟩ := neq_facts h05
        have Hm := Lib.hid (mkOk_no (p := p) (x := x) h05)
        have Hv : Hid (termOk p ms = false) := termOk_no_run (k := k + 1) (by rw [hsucc.out]; exact step_no1 Hm.out)
        clear hsucc
        have hor : kd < 3 ∨ 5 < kd := by omega
        clear h05
        rcases hor with hor | hor
        all_goals
          go_wp2
          go_ret
          exact ⟨ret_bool Hv.out.symm, rfl⟩
      rcases kind_cases h05 with rfl | rfl | rfl | rfl | rfl | rfl
      all_goals clear h05
      · by_cases hx : 0 ≤ x
        · by_cases hxp : x < p
          · obtain ⟨s', hs', hlen⟩ := step_yes (p := p) (s := s) (m := (0, x)) (by simp [mkOk]; try omega) (by simp [taken]; try omega)
            have Hs' : Hid (runS p (ms.take (k + 1)) [] = some s') := by rw [hsucc.out]; exact hs'
            have Hlen : Hid ((s'.length : Int) = s.length + (1)) := hlen
            clear hs' hlen hsucc
            go_wp2
            go_round
            case rel => exact ⟨k + 1, s', by omega, by go_num, Hs', by first | (rw [Hlen.out]; done) | (rw [Hlen.out]; congr 1; done) | (rw [Hlen.out]; congr 1; omega)⟩
            case measure => simp [intOf]; omega
          · have hxp' : p ≤ x := by omega
            have Hv : Hid (termOk p ms = false) := termOk_no_run (k := k + 1) (by rw [hsucc.out]; exact step_no1 (by simp [mkOk]; try omega))
            clear hsucc
            go_wp2
            go_ret
            exact ⟨ret_bool Hv.out.symm, rfl⟩
        · have hx' : x < 0 := by omega
          have Hv : Hid (termOk p ms = false) := termOk_no_run (k := k + 1) (by rw [hsucc.out]; exact step_no1 (by simp [mkOk]; try omega))
          clear hsucc
          go_wp2
          go_ret
          exact ⟨ret_bool Hv.out.symm, rfl⟩
      · by_cases hx : 0 ≤ x
        · by_cases hxp : x ≤ p
          · obtain ⟨s', hs', hlen⟩ := step_yes (p := p) (s := s) (m := (1, x)) (by simp [mkOk]; try omega) (by simp [taken]; try omega)
            have Hs' : Hid (runS p (ms.take (k + 1)) [] = some s') := by rw [hsucc.out]; exact hs'
            have Hlen : Hid ((s'.length : Int) = s.length + (1)) := hlen
            clear hs' hlen hsucc
            go_wp2
            go_round
            case rel => exact ⟨k + 1, s', by omega, by go_num, Hs', by first | (rw [Hlen.out]; done) | (rw [Hlen.out]; congr 1; done) | (rw [Hlen.out]; congr 1; omega)⟩
            case measure => simp [intOf]; omega
          · have hxp' : p < x := by omega
            by_cases hxe : x - 1 = p
            · have hxb : (x - 1 == p) = true := by rw [beq_iff_eq]; exact hxe
              obtain ⟨s', hs', hlen⟩ := step_yes (p := p) (s := s) (m := (1, x)) (by simp [mkOk]; try omega) (by simp [taken]; try omega)
              have Hs' : Hid (runS p (ms.take (k + 1)) [] = some s') := by rw [hsucc.out]; exact hs'
              have Hlen : Hid ((s'.length : Int) = s.length + (1)) := hlen
              clear hxe hs' hlen hsucc
              go_wp2
              go_round
              case rel => exact ⟨k + 1, s', by omega, by go_num, Hs', by first | (rw [Hlen.out]; done) | (rw [Hlen.out]; congr 1; done) | (rw [Hlen.out]; congr 1; omega)⟩
              case measure => simp [intOf]; omega
            · have hxb : (x - 1 == p) = false := by rw [beq_eq_false_iff_ne]; exact hxe
              have Hv : Hid (termOk p ms = false) := termOk_no_run (k := k + 1) (by rw [hsucc.out]; exact step_no1 (by simp [mkOk]; try omega))
              clear hxe hsucc
              go_wp2
              go_ret
              exact ⟨ret_bool Hv.out.symm, rfl⟩
        · have hx' : x < 0 := by omega
          have Hv : Hid (termOk p ms = false) := termOk_no_run (k := k + 1) (by rw [hsucc.out]; exact step_no1 (by simp [mkOk]; try omega))
          clear hsucc
          go_wp2
          go_ret
          exact ⟨ret_bool Hv.out.symm, rfl⟩
      · by_cases hx : x = 0
        · subst hx
          by_cases hge : 1 ≤ s.length
          · obtain ⟨s', hs', hlen⟩ := step_yes (p := p) (s := s) (m := (2, 0)) (by simp [mkOk]; try omega) (by simp [taken]; try omega)
            have Hs' : Hid (runS p (ms.take (k + 1)) [] = some s') := by rw [hsucc.out]; exact hs'
            have Hlen : Hid ((s'.length : Int) = s.length + (0)) := hlen
            clear hs' hlen hsucc
            go_wp2
            go_round
            case rel => exact ⟨k + 1, s', by omega, by go_num, Hs', by first | (rw [Hlen.out]; done) | (rw [Hlen.out]; congr 1; done) | (rw [Hlen.out]; congr 1; omega)⟩
            case measure => simp [intOf]; omega
          · have hge' : s.length < 1 := by omega
            have Hv : Hid (termOk p ms = false) := termOk_no_run (k := k + 1) (by rw [hsucc.out]; exact step_no2 (by simp [taken]; try omega))
            clear hsucc
            go_wp2
            go_ret
            exact ⟨ret_bool Hv.out.symm, rfl⟩
        · have hxb : (x == 0) = false := by rw [beq_eq_false_iff_ne]; exact hx
          have Hv : Hid (termOk p ms = false) := termOk_no_run (k := k + 1) (by rw [hsucc.out]; exact step_no1 (by simp [mkOk]; try omega))
          clear hx hsucc
          go_wp2
          go_ret
          exact ⟨ret_bool Hv.out.symm, rfl⟩
      · by_cases hx : x = 0
        · subst hx
          by_cases hge : 2 ≤ s.length
          · obtain ⟨s', hs', hlen⟩ := step_yes (p := p) (s := s) (m := (3, 0)) (by simp [mkOk]; try omega) (by simp [taken]; try omega)
            have Hs' : Hid (runS p (ms.take (k + 1)) [] = some s') := by rw [hsucc.out]; exact hs'
            have Hlen : Hid ((s'.length : Int) = s.length + (-1)) := hlen
            clear hs' hlen hsucc
            go_wp2
            go_round
            case rel => exact ⟨k + 1, s', by omega, by go_num, Hs', by first | (rw [Hlen.out]; done) | (rw [Hlen.out]; congr 1; done) | (rw [Hlen.out]; congr 1; omega)⟩
            case measure => simp [intOf]; omega
          · have hge' : s.length < 2 := by omega
            have Hv : Hid (termOk p ms = false) := termOk_no_run (k := k + 1) (by rw [hsucc.out]; exact step_no2 (by simp [taken]; try omega))
            clear hsucc
            go_wp2
            go_ret
            exact ⟨ret_bool Hv.out.symm, rfl⟩
        · have hxb : (x == 0) = false := by rw [beq_eq_false_iff_ne]; exact hx
          have Hv : Hid (termOk p ms = false) := termOk_no_run (k := k + 1) (by rw [hsucc.out]; exact step_no1 (by simp [mkOk]; try omega))
          clear hx hsucc
          go_wp2
          go_ret
          exact ⟨ret_bool Hv.out.symm, rfl⟩
      · by_cases hx : x = 0
        · subst hx
          by_cases hge : 2 ≤ s.length
          · obtain ⟨s', hs', hlen⟩ := step_yes (p := p) (s := s) (m := (4, 0)) (by simp [mkOk]; try omega) (by simp [taken]; try omega)
            have Hs' : Hid (runS p (ms.take (k + 1)) [] = some s') := by rw [hsucc.out]; exact hs'
            have Hlen : Hid ((s'.length : Int) = s.length + (-1)) := hlen
            clear hs' hlen hsucc
            go_wp2
            go_round
            case rel => exact ⟨k + 1, s', by omega, by go_num, Hs', by first | (rw [Hlen.out]; done) | (rw [Hlen.out]; congr 1; done) | (rw [Hlen.out]; congr 1; omega)⟩
            case measure => simp [intOf]; omega
          · have hge' : s.length < 2 := by omega
            have Hv : Hid (termOk p ms = false) := termOk_no_run (k := k + 1) (by rw [hsucc.out]; exact step_no2 (by simp [taken]; try omega))
            clear hsucc
            go_wp2
            go_ret
            exact ⟨ret_bool Hv.out.symm, rfl⟩
        · have hxb : (x == 0) = false := by rw [beq_eq_false_iff_ne]; exact hx
          have Hv : Hid (termOk p ms = false) := termOk_no_run (k := k + 1) (by rw [hsucc.out]; exact step_no1 (by simp [mkOk]; try omega))
          clear hx hsucc
          go_wp2
          go_ret
          exact ⟨ret_bool Hv.out.symm, rfl⟩
      · by_cases hx : x = 0
        · subst hx
          by_cases hge : 2 ≤ s.length
          · obtain ⟨s', hs', hlen⟩ := step_yes (p := p) (s := s) (m := (5, 0)) (by simp [mkOk]; try omega) (by simp [taken]; try omega)
            have Hs' : Hid (runS p (ms.take (k + 1)) [] = some s') := by rw [hsucc.out]; exact hs'
            have Hlen : Hid ((s'.length : Int) = s.length + (-1)) := hlen
            clear hs' hlen hsucc
            go_wp2
            go_round
            case rel => exact ⟨k + 1, s', by omega, by go_num, Hs', by first | (rw [Hlen.out]; done) | (rw [Hlen.out]; congr 1; done) | (rw [Hlen.out]; congr 1; omega)⟩
            case measure => simp [intOf]; omega
          · have hge' : s.length < 2 := by omega
            have Hv : Hid (termOk p ms = false) := termOk_no_run (k := k + 1) (by rw [hsucc.out]; exact step_no2 (by simp [taken]; try omega))
            clear hsucc
            go_wp2
            go_ret
            exact ⟨ret_bool Hv.out.symm, rfl⟩
        · have hxb : (x == 0) = false := by rw [beq_eq_false_iff_ne]; exact hx
          have Hv : Hid (termOk p ms = false) := termOk_no_run (k := k + 1) (by rw [hsucc.out]; exact step_no1 (by simp [mkOk]; try omega))
          clear hx hsucc
          go_wp2
          go_ret
          exact ⟨ret_bool Hv.out.symm, rfl⟩
    · obtain rfl : k = ms.length := by omega
      have hs0 : runS p ms [] = some s := by have := hs.out; rwa [List.take_length] at this
      by_cases hp : 1 ≤ p ∧ p ≤ 4
      · obtain ⟨hp1, hp4⟩ := hp
        by_cases hl : ms.length ≤ 15
        · by_cases h1 : s.length = 1
          · have Hv : Hid (termOk p ms = true) := by unfold Hid; rw [termOk_of_run hs0 hp1 hp4 hl]; simp [h1]
            have hb1 : ((s.length : Int) == 1) = true := by rw [beq_iff_eq]; omega
            clear hs0 h1
            go_wp2
            go_ret
            exact ⟨ret_bool (by rw [Hv.out]; simp; omega), rfl⟩
          · have Hv : Hid (termOk p ms = false) := by unfold Hid; rw [termOk_of_run hs0 hp1 hp4 hl]; simp [h1]
            have hb1 : ((s.length : Int) == 1) = false := by rw [beq_eq_false_iff_ne]; omega
            clear hs0 h1
            go_wp2
            go_ret
            exact ⟨ret_bool Hv.out.symm, rfl⟩
        · have Hv := Lib.hid (termOk_no_len (p := p) hl)
          have hl' : 15 < ms.length := by omega
          clear hs0 hl
          by_cases h1 : s.length = 1
          · have hb1 : ((s.length : Int) == 1) = true := by rw [beq_iff_eq]; omega
            clear h1
            go_wp2
            go_ret
            exact ⟨ret_bool (by rw [Hv.out]; simp; omega), rfl⟩
          · have hb1 : ((s.length : Int) == 1) = false := by rw [beq_eq_false_iff_ne]; omega
            clear h1
            go_wp2
            go_ret
            exact ⟨ret_bool Hv.out.symm, rfl⟩
      · have Hv := Lib.hid (termOk_no_p (ms := ms) hp)
        have hor : p < 1 ∨ 4 < p := by omega
        clear hs0 hp
        rcases hor with hor | hor
        all_goals
          go_wp2
          go_ret
          exact ⟨ret_bool Hv.out.symm, rfl⟩
end Go.Proofs.Ythiabicleedleaa

/- Contracts of the reference's syndromes. -/
import Derived.Test.YtnkgbolgcmjadaaFaultM
import Derived.Test.YtnkgbolgcmjadaaIntRows
import Derived.Test.YtnkgbolgcmjadaaTables
import Derived.Deep.RegionHeld3
import Derived.Deep.RegionWith
import Derived.Deep.Cut
import Derived.OwnWalk
namespace Go.Proofs.Ytnkgbolgcmjadaa
open Go.RowKit Go.Joins
theorem specL1In9 (n lo hi : Int) (b : Bool) (hb : Hid (b = decide (lo ≤ n ∧ n ≤ hi))) (w : World) :
    Calls Try.prog 42 #[.int .i64 n, .int .i64 lo, .int .i64 hi] w fun e w' => e = .returned (.bool b) ∧ w = w' := by
  rw [hb.out]; exact specIn n lo hi w
theorem rows_getD (rs : List RW) (k : Nat) : (rs.map (·.2)).getD k [] = (rs.getD k rw0).2 := by
  by_cases h : k < rs.length
  · simp [List.getD, h]
  · simp [List.getD, show rs.length ≤ k by omega, rw0]
def entOk (k j : Nat) (z : Int) : Bool := decide (0 ≤ z ∧ z ≤ 1) && decide (j = k → z = 0)
theorem rowOk_all {n k : Nat} {zs : List Int} (hl : zs.length = n) (h : ∀ j, j < n → entOk k j (zs.getD j 0) = true) : rowOk n k zs = true := by
  refine rowOk_iff.2 ⟨hl, fun j hj => ?_⟩
  have := h j hj
  unfold entOk at this
  rw [Bool.and_eq_true, decide_eq_true_eq, decide_eq_true_eq] at this
  exact this
theorem rowOk_len {n k : Nat} {zs : List Int} (hl : zs.length ≠ n) : rowOk n k zs = false := by
  cases h : rowOk n k zs with
  | false => rfl
  | true => exact absurd (rowOk_iff.1 h).1 hl
theorem rowOk_ent {n k j : Nat} {zs : List Int} (hj : j < n) (h : entOk k j (zs.getD j 0) = false) : rowOk n k zs = false := by
  cases hr : rowOk n k zs with
  | false => rfl
  | true =>
    have := (rowOk_iff.1 hr).2 j hj
    unfold entOk at h
    rw [decide_eq_true this.1, decide_eq_true this.2] at h
    cases h
theorem synOk_all {rs : List RW} (h : ∀ k, k < rs.length → rowOk rs.length k (rs.getD k rw0).2 = true) : synOk (rs.map (·.2)) = decide (1 ≤ (rs.length : Int) ∧ (rs.length : Int) ≤ 5) := by
  unfold synOk
  have e : ((List.range (rs.map (·.2)).length).all fun k => rowOk (rs.map (·.2)).length k ((rs.map (·.2)).getD k [])) = true := by
    rw [List.all_eq_true]
    intro k hk
    rw [List.length_map] at hk ⊢
    rw [rows_getD]
    exact h k (List.mem_range.1 hk)
  rw [e, Bool.true_and, List.length_map, decide_eq_decide]
  omega
theorem synOk_bad {rs : List RW} {k : Nat} (hk : k < rs.length) (h : rowOk rs.length k (rs.getD k rw0).2 = false) : synOk (rs.map (·.2)) = false := by
  cases hs : synOk (rs.map (·.2)) with
  | false => rfl
  | true =>
    unfold synOk at hs
    rw [Bool.and_eq_true, List.all_eq_true] at hs
    have := hs.1 k (List.mem_range.2 (by rw [List.length_map]; exact hk))
    rw [rows_getD, List.length_map, h] at this
    cases this
theorem fits_all {s : List (List Int)} {X n : Nat} (hn : s.length = n) (h : ∀ k, k < n → fitsK s X k = true) : fitsN s X = true := by
  unfold fitsN
  rw [List.all_eq_true]
  intro k hk
  exact h k (by rw [← hn]; exact List.mem_range.1 hk)
theorem fits_bad {s : List (List Int)} {X k : Nat} (hk : k < s.length) (h : fitsK s X k = false) : fitsN s X = false := by
  cases hf : fitsN s X with
  | false => rfl
  | true =>
    unfold fitsN at hf
    rw [List.all_eq_true] at hf
    rw [hf k (List.mem_range.2 hk)] at h
    cases h
theorem fitsK_bit {s : List (List Int)} {X k : Nat} (h : X.testBit k = true) : fitsK s X k = true := fitsK_iff.2 (fun e => by rw [h] at e; cases e)
theorem fitsK_all {s : List (List Int)} {X k n : Nat} (hn : s.length = n) (h : ∀ j, j < n → j ≠ k → toldE s k j = bitI X j) : fitsK s X k = true := fitsK_iff.2 (fun _ j hj hne => h j (by omega) hne)
theorem fitsK_bad {s : List (List Int)} {X k j : Nat} (hb : X.testBit k = false) (hj : j < s.length) (hne : j ≠ k) (h : toldE s k j ≠ bitI X j) : fitsK s X k = false := by
  cases hf : fitsK s X k with
  | false => rfl
  | true => exact absurd (fitsK_iff.1 hf hb j hj hne) h
theorem told_rows (rs : List RW) (k j : Nat) : toldE (rs.map (·.2)) k j = (rs.getD k rw0).2.getD j 0 := by unfold toldE; rw [rows_getD]
theorem syn_rows {rs : List RW} (h : synOk (rs.map (·.2)) = true) : rs.length ≤ 5 ∧ 1 ≤ rs.length ∧ ∀ k, k < rs.length → (rs.getD k rw0).2.length = rs.length := by
  obtain ⟨h1, h2, h3⟩ := synOk_iff.1 h
  rw [List.length_map] at h1 h2 h3
  exact ⟨h3, h2, fun k hk => by rw [← rows_getD]; exact (h1 k hk).1⟩
theorem bit_mod9 (X j : Nat) : ((X : Int) / 2 ^ j).tmod 2 = bitI X j := by unfold bitI; exact tmod_two_val
attribute [local irreducible] synOk rowOk entOk fitsN fitsK toldE bitI
set_option maxRecDepth 100000 in
set_option maxHeartbeats 4000000 in
theorem specSyndromeOk (rs : List RW) (B : Nat) (v : Value) (w : World) (hr : RdRows w B v rs) :
    Calls Try.prog 13 #[v] w fun e w' => e = .returned (.bool (synOk (rs.map (·.2)))) ∧ w = w' := by
  have Hget := Lib.hid (fun j (hj : j < rs.length) => hr.get hj)
  obtain ⟨ao, cap, rfl, hl, hm, _hi, hc0⟩ := hr
  have hc := Lib.hid hc0; clear hc0 _hi
  unfold maxLen at hm
  have Hall := Lib.hid (fun h => synOk_all (rs := rs) h)
  have Hbad := Lib.hid (fun k hk h => synOk_bad (rs := rs) (k := k) hk h)
  go_enter Try.func13, Try.ntmps13
  go_wp2
  go_loop [3, 4] (fun i _ => ∃ k : Nat, k ≤ rs.length ∧ i = .int .i64 k ∧ Hid (∀ m, m < k → rowOk rs.length m (rs.getD m rw0).2 = true)) (fun i _ => rs.length - (intOf i).toNat)
  case atStart => exact ⟨0, Nat.zero_le _, rfl, fun m hm => absurd hm (Nat.not_lt_zero _)⟩
  case round =>
    obtain ⟨k, hk, rfl, hrows⟩ := hrel
    by_cases hlt : k < rs.length
    · obtain ⟨b, off, rfl, hb, hcell⟩ := hc.out k hlt
      have hrk := Hget.out k hlt
      have hbk := Hbad.out k hlt
      have Hsucc : Hid (rowOk rs.length k (rs.getD k rw0).2 = true → ∀ m, m < k + 1 → rowOk rs.length m (rs.getD m rw0).2 = true) := fun h m hm => by
        by_cases hmk : m < k
        · exact hrows.out m hmk
        · obtain rfl : m = k := by omega
          exact h
      generalize rs.getD k rw0 = q at *
      obtain ⟨u, zs⟩ := q
      obtain ⟨ao2, cap2, hu, hzl, hzm, hzc⟩ := hrk
      dsimp only at hcell hbk hu hzl hzc
      subst hu
      unfold maxLen at hzm
      have Hzc := Lib.hid hzc
      clear hzc
      have Hs2 : Hid (rowOk rs.length k zs = true → ∀ m, m < k + 1 → rowOk rs.length m (rs.getD m rw0).2 = true) := Hsucc.out
      clear Hsucc
      by_cases hlen : zs.length = rs.length
      · have Hra := Lib.hid (fun h => rowOk_all (n := rs.length) (k := k) hlen h)
        have Hrb := Lib.hid (fun j hj h => hbk (rowOk_ent (n := rs.length) (k := k) (zs := zs) (j := j) hj h))
        rw [hlen] at hcell hzl Hzc
        clear hbk
        generalize hn : rs.length = n at *
        clear hn hlen
        go_wp2
        go_loop [4] (fun i => ∃ j : Nat, j ≤ n ∧ i = .int .i64 j ∧ Hid (∀ m, m < j → entOk k m (zs.getD m 0) = true)) (fun i => n - (intOf i).toNat)
        case atStart => exact ⟨0, Nat.zero_le _, rfl, fun m hm => absurd hm (Nat.not_lt_zero _)⟩
        case round =>
          obtain ⟨j, hj, rfl, hents⟩ := hrel
          by_cases hjl : j < n
          · obtain ⟨b2, off2, rfl, hb2, hc2⟩ := Hzc.out j hjl
            have hrbj := Hrb.out j hjl
            have Hents : Hid (entOk k j (zs.getD j 0) = true → ∀ m, m < j + 1 → entOk k m (zs.getD m 0) = true) := fun h m hm => by
              by_cases hmj : m < j
              · exact hents.out m hmj
              · obtain rfl : m = j := by omega
                exact h
            generalize zs.getD j 0 = z at *
            have hjn : j < 9223372036854775807 := by omega
            by_cases h01 : 0 ≤ z ∧ z ≤ 1
            · have Hin : Hid (true = decide (0 ≤ z ∧ z ≤ 1)) := (decide_eq_true h01).symm
              have hz : z = 0 ∨ z = 1 := by omega
              clear h01
              rcases hz with rfl | rfl
              · have Hs := Lib.hid (Hents.out (by unfold entOk; simp))
                by_cases hjk : j = k
                · have hjk' : ((j : Int) == (k : Int)) = true := by rw [beq_iff_eq]; omega
                  clear hrbj hjk
                  go_wp2_with fail
                  refine (specL1In9 _ _ _ true Hin _).mono ?_
                  rintro e w' ⟨rfl, rfl⟩
                  go_wp2
                  go_round
                  case rel => exact ⟨j + 1, by omega, by go_num, Hs.out⟩
                  case measure => simp [intOf]; omega
                · have hjk' : ((j : Int) == (k : Int)) = false := by rw [beq_eq_false_iff_ne]; omega
                  clear hrbj hjk
                  go_wp2_with fail
                  refine (specL1In9 _ _ _ true Hin _).mono ?_
                  rintro e w' ⟨rfl, rfl⟩
                  go_wp2
                  go_round
                  case rel => exact ⟨j + 1, by omega, by go_num, Hs.out⟩
                  case measure => simp [intOf]; omega
              · by_cases hjk : j = k
                · have Hf := Lib.hid (hrbj (by unfold entOk; simp [hjk]))
                  have hjk' : ((j : Int) == (k : Int)) = true := by rw [beq_iff_eq]; omega
                  clear hrbj hjk
                  go_wp2_with fail
                  refine (specL1In9 _ _ _ true Hin _).mono ?_
                  rintro e w' ⟨rfl, rfl⟩
                  go_wp2
                  go_ret
                  exact ⟨by rw [Hf.out]; rfl, rfl⟩
                · have Hs := Lib.hid (Hents.out (by unfold entOk; simp [hjk]))
                  have hjk' : ((j : Int) == (k : Int)) = false := by rw [beq_eq_false_iff_ne]; omega
                  clear hrbj hjk
                  go_wp2_with fail
                  refine (specL1In9 _ _ _ true Hin _).mono ?_
                  rintro e w' ⟨rfl, rfl⟩
                  go_wp2
                  go_round
                  case rel => exact ⟨j + 1, by omega, by go_num, Hs.out⟩
                  case measure => simp [intOf]; omega
            · have Hin : Hid (false = decide (0 ≤ z ∧ z ≤ 1)) := (decide_eq_false h01).symm
              have Hf := Lib.hid (hrbj (by unfold entOk; rw [decide_eq_false h01]; rfl))
              clear hrbj h01
              go_wp2_with fail
              refine (specL1In9 _ _ _ false Hin _).mono ?_
              rintro e w' ⟨rfl, rfl⟩
              go_wp2
              go_ret
              exact ⟨by rw [Hf.out]; rfl, rfl⟩
          · obtain rfl : j = n := Nat.le_antisymm hj (Nat.le_of_not_lt hjl)
            have hs := Hs2.out (Hra.out hents.out)
            have Hs := Lib.hid hs
            clear hs
            go_wp2
            go_round
            case rel => exact ⟨k + 1, by omega, by go_num, Hs.out⟩
            case measure => simp [intOf]; omega
      · have hf := hbk (rowOk_len hlen)
        have Hf := Lib.hid hf
        have hne : ((zs.length : Int) != (rs.length : Int)) = true := by rw [bne_iff_ne]; omega
        clear hbk hf hlen
        go_wp2
        go_ret
        exact ⟨by rw [Hf.out]; rfl, rfl⟩
    · obtain rfl : k = rs.length := Nat.le_antisymm hk (Nat.le_of_not_lt hlt)
      have hv := Hall.out hrows.out
      have Hv := Lib.hid hv
      clear hv
      go_wp2_with fail
      refine (specL1In9 _ _ _ (synOk (rs.map (·.2))) Hv _).mono ?_
      rintro e w' ⟨rfl, rfl⟩
      go_wp2
      go_ret
      exact ⟨rfl, rfl⟩
set_option maxRecDepth 100000 in
set_option maxHeartbeats 4000000 in
theorem specFits (rs : List RW) (X : Nat) (hs : synOk (rs.map (·.2)) = true) (_hX : X < 64) (B : Nat) (v : Value) (w : World) (hr : RdRows w B v rs) :
    Calls Try.prog 46 #[v, .int .i64 X] w fun e w' => e = .returned (.bool (fitsN (rs.map (·.2)) X)) ∧ ∃ nd, w.drewN nd = w' := by
  have Hget := Lib.hid (fun j (hj : j < rs.length) => hr.get hj)
  obtain ⟨hn5, hn1, hlens⟩ := syn_rows hs
  obtain ⟨ao, cap, rfl, hl, hm, _hi, hc0⟩ := hr
  have hc := Lib.hid hc0; clear hc0 _hi
  unfold maxLen at hm
  have Hall := Lib.hid (fun h => fits_all (s := rs.map (·.2)) (X := X) (n := rs.length) (by simp) h)
  have Hbad := Lib.hid (fun k (hk : k < rs.length) h => fits_bad (s := rs.map (·.2)) (X := X) (k := k) (by simpa using hk) h)
  have Hbit := Lib.hid (fun k h => fitsK_bit (s := rs.map (·.2)) (X := X) (k := k) h)
  have HallK := Lib.hid (fun k h => fitsK_all (s := rs.map (·.2)) (X := X) (k := k) (n := rs.length) (by simp) h)
  have HbadK := Lib.hid (fun k j hb (hj : j < rs.length) hne h => fitsK_bad (s := rs.map (·.2)) (X := X) (k := k) (j := j) hb (by simpa using hj) hne h)
  have Htold := Lib.hid (told_rows rs)
  have Hlens := Lib.hid hlens
  clear hs hlens
  generalize rs.map (·.2) = s at *
  generalize hn : rs.length = n at *
  clear hn
  go_enter Try.func46, Try.ntmps46
  go_wp2
  go_loopw [5, 6] (fun i _ wr => ∃ k : Nat, k ≤ n ∧ i = .int .i64 k ∧ Hid (∀ m, m < k → fitsK s X m = true) ∧ ∃ nd, w.drewN nd = wr) (fun i _ _ => n - (intOf i).toNat)
  case atStart => exact ⟨0, Nat.zero_le _, rfl, fun m hm => absurd hm (Nat.not_lt_zero _), 0, rfl⟩
  case round =>
    obtain ⟨k, hk, rfl, hrows, nd, rfl⟩ := hrel
    by_cases hlt : k < n
    · obtain ⟨b, off, rfl, hb, hcell⟩ := hc.out k hlt
      have hrk := Hget.out k hlt
      have hlk := Hlens.out k hlt
      have htk := Htold.out k
      have Hsucc : Hid (fitsK s X k = true → ∀ m, m < k + 1 → fitsK s X m = true) := fun h m hm => by
        by_cases hmk : m < k
        · exact hrows.out m hmk
        · obtain rfl : m = k := by omega
          exact h
      generalize rs.getD k rw0 = q at *
      obtain ⟨u, zs⟩ := q
      obtain ⟨ao2, cap2, hu, hzl, hzm, hzc⟩ := hrk
      dsimp only at hcell hu hzl hzc hlk htk
      subst hu
      unfold maxLen at hzm
      rw [hlk] at hcell hzl hzc
      have Hzc := Lib.hid hzc
      have Htk := Lib.hid htk
      clear hzc htk hlk
      have hmk : min k 64 = k := by omega
      have hsk := bit_mod9 X k
      cases hbk : X.testBit k with
      | true =>
        have hv : bitI X k = 1 := by unfold bitI; rw [hbk]; rfl
        rw [hv] at hsk
        have Hs := Lib.hid (Hsucc.out (Hbit.out k hbk))
        clear hv hbk
        go_wp2
        go_loopw [6] (fun i wr => i = .int .i64 (0 : Nat) ∧ w.drewN nd = wr) (fun _ _ => 0)
        case atStart => exact ⟨rfl, rfl⟩
        case round =>
          obtain ⟨rfl, rfl⟩ := hrel
          go_wp2
          go_roundw
          case rel => exact ⟨k + 1, by omega, by go_num, Hs.out, by first | exact ⟨_, rfl⟩ | exact ⟨_, (World.drewN_drewN _ _ _).symm⟩⟩
          case measure => simp [intOf]; omega
      | false =>
        have hv : bitI X k = 0 := by unfold bitI; rw [hbk]; rfl
        rw [hv] at hsk
        have Hfk := Lib.hid (fun h => Hsucc.out (HallK.out k h))
        have Hfb := Lib.hid (fun j hj hne h => Hbad.out k hlt (HbadK.out k j hbk hj hne h))
        clear hv hbk
        go_wp2
        go_loopw [6] (fun i wr => ∃ j : Nat, j ≤ n ∧ i = .int .i64 j ∧ Hid (∀ m, m < j → m ≠ k → toldE s k m = bitI X m) ∧ ∃ nd, w.drewN nd = wr) (fun i _ => n - (intOf i).toNat)
        case atStart => exact ⟨0, Nat.zero_le _, rfl, fun m hm => absurd hm (Nat.not_lt_zero _), nd, rfl⟩
        case round =>
          obtain ⟨j, hj, rfl, hents, ne, rfl⟩ := hrel
          by_cases hjl : j < n
          · obtain ⟨b2, off2, rfl, hb2, hc2⟩ := Hzc.out j hjl
            have hfbj := Hfb.out j hjl
            have htj := Htk.out j
            have hmj : min j 64 = j := by omega
            have hsj := bit_mod9 X j
            have Hents : Hid ((j ≠ k → toldE s k j = bitI X j) → ∀ m, m < j + 1 → m ≠ k → toldE s k m = bitI X m) := fun h m hm hne => by
              by_cases hmj : m < j
              · exact hents.out m hmj hne
              · obtain rfl : m = j := by omega
                exact h hne
            rw [← htj] at hc2
            generalize toldE s k j = z at *
            generalize bitI X j = y at *
            by_cases hjk : j = k
            · have hjk' : ((j : Int) != (k : Int)) = false := by rw [bne_eq_false_iff_eq]; omega
              have Hs := Lib.hid (Hents.out (fun h => absurd hjk h))
              clear hfbj htj hjk
              go_upto_region 7 with fail
              first
                | go_quiet (fail)
                | go_region_with (fail)
                | fail
              all_goals go_wp2
              all_goals go_roundw
              case rel => exact ⟨j + 1, by omega, by go_num, Hs.out, by first | exact ⟨_, rfl⟩ | exact ⟨_, (World.drewN_drewN _ _ _).symm⟩⟩
              case measure => simp [intOf]; omega
            · have hjk' : ((j : Int) != (k : Int)) = true := by rw [bne_iff_ne]; omega
              by_cases hzy : z = y
              · subst hzy
                have hzz : (z != z) = false := by simp
                have Hs := Lib.hid (Hents.out (fun _ => rfl))
                clear hfbj htj hjk
                go_upto_region 7 with fail
                first
                  | go_quiet (fail)
                  | go_region_with (fail)
                  | fail
                all_goals go_wp2
                all_goals go_roundw
                case rel => exact ⟨j + 1, by omega, by go_num, Hs.out, by first | exact ⟨_, rfl⟩ | exact ⟨_, (World.drewN_drewN _ _ _).symm⟩⟩
                case measure => simp [intOf]; omega
              · have hzy' : (z != y) = true := by rw [bne_iff_ne]; exact hzy
                have Hf := Lib.hid (hfbj hjk hzy)
                clear hfbj htj hjk hzy
                go_upto_region 7 with fail
                first
                  | go_quiet (fail)
                  | go_region_with (fail)
                  | fail
                all_goals go_wp2
                all_goals go_ret
                all_goals exact ⟨by rw [Hf.out]; rfl, by first | exact ⟨_, rfl⟩ | exact ⟨_, (World.drewN_drewN _ _ _).symm⟩⟩
          · obtain rfl : j = n := Nat.le_antisymm hj (Nat.le_of_not_lt hjl)
            have Hs := Lib.hid (Hfk.out hents.out)
            go_wp2
            go_roundw
            case rel => exact ⟨k + 1, by omega, by go_num, Hs.out, by first | exact ⟨_, rfl⟩ | exact ⟨_, (World.drewN_drewN _ _ _).symm⟩⟩
            case measure => simp [intOf]; omega
    · obtain rfl : k = n := Nat.le_antisymm hk (Nat.le_of_not_lt hlt)
      have hv := Hall.out hrows.out
      have Hv := Lib.hid hv
      clear hv
      go_wp2
      go_ret
      exact ⟨by rw [Hv.out]; rfl, nd, rfl⟩
end Go.Proofs.Ytnkgbolgcmjadaa

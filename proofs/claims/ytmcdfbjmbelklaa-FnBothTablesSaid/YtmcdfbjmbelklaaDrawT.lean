/- The reference model's drawn tables. -/
import Derived.Test.YtmcdfbjmbelklaaDraw
import Derived.Test.YtmcdfbjmbelklaaTables
namespace Go.Proofs.Ytmcdfbjmbelklaa
open Go.RowKit
attribute [local irreducible] heads turned tabOf wl

/-! ### tables -/
def PT (p t : Int) : Prop := 1 ≤ p ∧ p ≤ 8 ∧ -70000 ≤ t ∧ t < 65536
set_option maxRecDepth 100000 in
set_option maxHeartbeats 2000000 in
theorem l20Table (b c : Nat) (w : World) (hrd : Rd w b c) (hc : c ≤ 549755813888) :
    Calls Try.prog 41 #[.pointer (some ⟨b, 0, none⟩)] w (Drew2 PT b (c + 100) w) := by
  go_enter Try.func41, Try.ntmps41
  go_wp2_with fail
  refine (pick _ _ _ _ hrd (by omega) (by omega) (by omega)).mono ?_
  rintro e w1 ⟨x, hx0, hx1, rfl, hrd1, hg1⟩
  obtain ⟨X, rfl⟩ := Int.eq_ofNat_of_zero_le hx0
  clear hrd
  go_wp2_with fail
  refine (pick _ _ _ _ hrd1 (by omega) (by omega) (by omega)).mono ?_
  rintro e w2 ⟨thin, ht0, ht1, rfl, hrd2, hg2⟩
  have hG := grownBy_trans hg1 hg2
  clear hrd1 hg1 hg2 hx0
  generalize hP : (1 + (X : Int)) = P at *
  have hP1 : 1 ≤ P := by omega
  have hP4 : P ≤ 4 := by omega
  clear hP hx1
  have hN := cnt_of P
  obtain ⟨hN2, hN16⟩ := two_pow_N hP1 hP4
  generalize (2 : Nat) ^ P.toNat = N at *
  have hNe := hN.out
  have hsh : wrap64 (2 ^ P.toNat) = (N : Int) := by rw [← hNe]; unfold wrap64; omega
  clear hNe
  go_wp2_with fail
  go_loopw [5, 7] (fun t i wr => ∃ k tb : Nat, k ≤ N ∧ i = .int .i64 k ∧ t = .int .i64 tb ∧ Hid (tb < 2 ^ N) ∧ Rd wr b (c + 2 + k) ∧ w.grownBy wr (some b)) (fun _ i _ => N - (intOf i).toNat)
  case atStart => exact ⟨0, 0, Nat.zero_le _, rfl, rfl, Nat.two_pow_pos _, hrd2, hG⟩
  case round =>
    obtain ⟨k, tb, hk, rfl, rfl, htb, hrk, hGk⟩ := hrel
    by_cases hlt : k < N
    · go_wp2_with fail
      refine (pick _ _ _ _ hrk (by omega) (by omega) (by omega)).mono ?_
      rintro e w3 ⟨y, hy0, hy1, rfl, hrk3, hg3⟩
      have hG3 := grownBy_trans hGk hg3
      have Hr3 := Lib.hid hrk3
      have HG3 := Lib.hid hG3
      clear hrk hGk hrk3 hg3 hG3
      by_cases hy : y = 0
      · have hyb : (y == 0) = true := by rw [beq_iff_eq]; exact hy
        have Hor := Lib.hid (or_shlN (t := tb) (x := k) htb.out hN16 hlt)
        rw [Nat.min_eq_left (show k ≤ 64 by omega)] at Hor
        have Hlt : Hid (tb ||| 1 <<< k < 2 ^ N) := Nat.or_lt_two_pow htb.out (by rw [Nat.one_shiftLeft]; exact Nat.pow_lt_pow_right (by decide) hlt)
        clear hy
        go_wp2
        go_roundw
        case rel => exact ⟨k + 1, _, by omega, by go_num, by rw [Hor.out], Hlt, Hr3.out, HG3.out⟩
        case measure => simp [intOf]; omega
      · have hyb : (y == 0) = false := by rw [beq_eq_false_iff_ne]; exact hy
        clear hy
        go_wp2
        go_roundw
        case rel => exact ⟨k + 1, tb, by omega, by go_num, rfl, htb, Hr3.out, HG3.out⟩
        case measure => simp [intOf]; omega
    · have hlast : tb < 65536 := Nat.lt_of_lt_of_le htb.out (by exact Nat.pow_le_pow_right (by decide) hN16)
      have Hlast := Lib.hid hlast; clear hlast
      go_wp2_with fail
      refine (pick _ _ _ _ hrk (by omega) (by omega) (by omega)).mono ?_
      rintro e w3 ⟨y, hy0, hy1, rfl, hrk3, hg3⟩
      have hG3 := grownBy_trans hGk hg3
      clear hrk hGk hg3
      go_wp2_with fail
      refine (pick _ _ _ _ hrk3 (by omega) (by omega) (by omega)).mono ?_
      rintro e w4 ⟨z, hz0, hz1, rfl, hrk4, hg4⟩
      have hG4 := grownBy_trans hG3 hg4
      have Hr4 := Lib.hid (hrk4.mono (show c + 2 + k + 1 + 1 ≤ c + 100 by omega))
      have HG4 := Lib.hid hG4
      clear hrk3 hrk4 hG3 hg4 hG4
      have htl : (tb : Int) ≤ 100000 := by have := Hlast.out; omega
      go_wp2
      go_ret2
      exact ⟨_, _, ⟨by omega, by omega, by have := Hlast.out; omega, by have := Hlast.out; omega⟩, rfl, Hr4.out, HG4.out⟩
end Go.Proofs.Ytmcdfbjmbelklaa

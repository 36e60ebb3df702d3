/- The reference model's draws of strange words. -/
import Derived.Test.YtbcmepcjhobemaaDrawA
import Derived.Deep.RegionHeld3
import Derived.OwnWalk
namespace Go.Proofs.Ytbcmepcjhobemaa
open Go.RowKit Go.Joins
set_option maxRecDepth 100000 in
set_option maxHeartbeats 8000000 in
theorem l20Strange (b c : Nat) (w : World) (hrd : Rd w b c) (hc : c ≤ 274877906944) :
    Calls Try.prog 34 #[.pointer (some ⟨b, 0, none⟩)] w fun e w' =>
      ∃ (p k : Int) (g n cap : Nat) (ms : List (Int × Int)), 1 ≤ p ∧ p ≤ 4 ∧ 0 ≤ k ∧ k ≤ 8 ∧ e = .returned (.tuple #[.int .i64 p, .int .i64 k, .slice (some ⟨g, 0, none⟩) n cap]) ∧ ms.length = n ∧ w'.ownsRow w.heap.size TM 2 (.slice (some ⟨g, 0, none⟩) n cap) n (mcells ms) ∧ I64s ms ∧ n ≤ 20 ∧ w.grownBy w' (some b) ∧ Rd w' b (c + 110) := by
  have hbw := hrd.lt
  go_enter Try.func34, Try.ntmps34
  go_wp2_with fail
  refine (pick _ _ _ _ hrd (by omega) (by omega) (by omega)).mono ?_
  rintro e w1 ⟨x, hx0, hx1, rfl, hrd1, hg1⟩
  clear hrd
  have hPw : IntKind.i64.wrap (2 + x) = 2 + x := IntWalk.i64_in _ (by omega)
  have hP2 : 2 ≤ 2 + x := by omega
  have hP4 : 2 + x ≤ 4 := by omega
  clear hx0 hx1
  go_wp2_with fail
  have hbw1 := hrd1.lt
  have hs1 := hg1.size
  generalize 2 + x = P at *
  have hPm : IntKind.i64.wrap (P - 1) = P - 1 := IntWalk.i64_in _ (by omega)
  refine (pick 40 b _ _ hrd1 (by omega) (by omega) (by omega)).mono ?_
  rintro e w2 ⟨y, y0, y1, rfl, hrd2, hg2⟩
  have hG2 := grownBy_trans hg1 hg2
  clear hrd1
  go_wp2_with fail
  refine (pick (P - 1) b _ _ hrd2 (by omega) (by omega) (by omega)).mono ?_
  rintro e w3 ⟨q, q0, q1, rfl, hrd3, hg3⟩
  have hG3 := grownBy_trans hG2 hg3
  clear hrd2
  go_wp2_with fail
  refine (pick 40 b _ _ hrd3 (by omega) (by omega) (by omega)).mono ?_
  rintro e w4 ⟨z, z0, z1, rfl, hrd4, hg4⟩
  have hG4 := grownBy_trans hG3 hg4
  have hs4 := hG4.size
  clear hrd3
  go_wp2_with fail
  refine (l20Term P 14 b _ _ hrd4 (by omega) hP4 (by omega) (by omega)).mono ?_
  rintro e w5 ⟨g, n, cap, ms, rfl, rfl, hown, hi, hn, hrd5, hg5⟩
  have HG5 := Lib.hid (grownBy_trans hG4 hg5)
  have Hown := Lib.hid (own_mono hown hs4)
  have Hi := Lib.hid hi
  have Hrd5 := Lib.hid (hrd5.mono (c' := c + 110) (by omega))
  clear hrd4 hg1 hg2 hg3 hg4 hg5 hG2 hG3 hG4 hown hi hrd5
  go_wp2
  exact bodyPost_ret (v := .tuple #[.int .i64 (P - y / 39), .int .i64 (q + z / 39 * 3), .slice (some ⟨g, 0, none⟩) ms.length cap]) (by simp [results, Try.results34, go_sem]) rfl ⟨P - y / 39, q + z / 39 * 3, g, ms.length, cap, ms, by omega, by omega, by omega, by omega, rfl, rfl, Hown.out, Hi.out, hn, HG5.out, Hrd5.out⟩
set_option maxHeartbeats 1000000 in
theorem drawStrangeTerm (a : Value) (n : Nat) (w : World) (hr : RdBytes w w.heap.size a n) :
    Calls Try.prog 16 #[a] w (OutB w) := by
  go_enter Try.func16, Try.ntmps16
  go_wp2_with fail
  refine (l20Open _ _ _ hr).mono ?_
  rintro e w1 ⟨b, rfl, hb, hrd, hbel⟩
  go_wp2_with fail
  refine (l20Strange _ _ _ hrd (by omega)).mono ?_
  rintro e w2 ⟨p, k, g, n, cap, ms, hp1, hp4, hk0, hk8, rfl, rfl, hown, hi, hn, hg2, _hrd2⟩
  have HB := Lib.hid (below_of_grown hbel hb hg2)
  have Hown := Lib.hid (own_mono hown hbel.size)
  have Hi := Lib.hid hi
  clear hrd hg2 hbel hown hi _hrd2
  go_wp2
  exact bodyPost_ret (v := .tuple #[.int .i64 p, .int .i64 k, .slice (some ⟨g, 0, none⟩) ms.length cap]) (by simp [results, Try.results16, go_sem]) rfl ⟨p, k, g, cap, ms, hp1, hp4, hk0, hk8, rfl, Hown.out, Hi.out, by omega, HB.out⟩
set_option maxHeartbeats 1000000 in
theorem drawWordTable (a : Value) (n : Nat) (w : World) (hr : RdBytes w w.heap.size a n) :
    Calls Try.prog 22 #[a] w (OutB w) := by
  go_enter Try.func22, Try.ntmps22
  go_wp2_with fail
  refine (l20Open _ _ _ hr).mono ?_
  rintro e w1 ⟨b, rfl, hb, hrd, hbel⟩
  go_wp2_with fail
  refine (l20Strange _ _ _ hrd (by omega)).mono ?_
  rintro e w2 ⟨p, k, g, n, cap, ms, hp1, hp4, hk0, hk8, rfl, rfl, hown, hi, hn, hg2, _hrd2⟩
  have HB := Lib.hid (below_of_grown hbel hb hg2)
  have Hown := Lib.hid (own_mono hown hbel.size)
  have Hi := Lib.hid hi
  clear hrd hg2 hbel hown hi _hrd2
  go_wp2
  exact bodyPost_ret (v := .tuple #[.int .i64 p, .int .i64 k, .slice (some ⟨g, 0, none⟩) ms.length cap]) (by simp [results, Try.results22, go_sem]) rfl ⟨p, k, g, cap, ms, hp1, hp4, hk0, hk8, rfl, Hown.out, Hi.out, by omega, HB.out⟩
set_option maxRecDepth 100000 in
set_option maxHeartbeats 8000000 in
theorem drawWordIn (a : Value) (n : Nat) (w : World) (hr : RdBytes w w.heap.size a n) :
    Calls Try.prog 10 #[a] w (OutA w) := by
  go_enter Try.func10, Try.ntmps10
  go_wp2_with fail
  refine (l20Open _ _ _ hr).mono ?_
  rintro e w1 ⟨b, rfl, hb, hrd, hbel⟩
  have hbw := hrd.lt
  go_wp2_with fail
  refine (l20Strange _ _ _ hrd (by omega)).mono ?_
  rintro e w2 ⟨p, k, g, n, cap, ms, hp1, hp4, hk0, hk8, rfl, rfl, hown, hi, hn, hg2, hrd2⟩
  obtain ⟨P, rfl⟩ := Int.eq_ofNat_of_zero_le (show 0 ≤ p by omega)
  have hsh : wrap64 (2 ^ P) = ((2 ^ P : Nat) : Int) := by
    have h : P = 1 ∨ P = 2 ∨ P = 3 ∨ P = 4 := by omega
    rcases h with rfl | rfl | rfl | rfl <;> decide +kernel
  have hsh2 : IntKind.i64.wrap (2 ^ P) = ((2 ^ P : Nat) : Int) := by
    have h : P = 1 ∨ P = 2 ∨ P = 3 ∨ P = 4 := by omega
    rcases h with rfl | rfl | rfl | rfl <;> decide +kernel
  have hN16 : 2 ^ P ≤ 16 := two16 (by omega)
  have hN1 : 1 ≤ 2 ^ P := Nat.one_le_two_pow
  have hmn : min P 64 = P := by omega
  generalize hQ : (2 ^ P : Nat) = Q at *
  clear hQ
  go_wp2_with fail
  refine (pick (Q : Int) b _ _ hrd2 (by omega) (by omega) (by omega)).mono ?_
  rintro e w3 ⟨y, hy0, hy1, rfl, hrd3, hg3⟩
  have hown3 := own_row hown hg3 (by omega)
  have hG3 := grownBy_trans hg2 hg3
  go_wp2_with fail
  refine (pick 40 b _ _ hrd3 (by omega) (by omega) (by omega)).mono ?_
  rintro e w4 ⟨z, hz0, hz1, rfl, hrd4, hg4⟩
  have Hown4 := Lib.hid (own_mono (own_row hown3 hg4 (by omega)) hbel.size)
  have HB := Lib.hid (below_of_grown hbel hb (grownBy_trans hG3 hg4))
  have Hi := Lib.hid hi
  clear hrd hrd2 hrd3 hrd4 hg2 hg3 hg4 hG3 hown hown3 hbel hi
  go_wp2
  exact bodyPost_ret (v := .tuple #[.int .i64 P, .int .i64 k, .slice (some ⟨g, 0, none⟩) ms.length cap, .int .i64 (y + z / 39 * 16)]) (by simp [results, Try.results10, go_sem]) rfl ⟨P, k, g, cap, ms, y + z / 39 * 16, hp1, hp4, hk0, hk8, rfl, Hown4.out, Hi.out, hn, by omega, by omega, HB.out⟩
end Go.Proofs.Ytbcmepcjhobemaa

/- The reference's seven draws of chapter 10. -/
import Derived.Test.YtnkgbolgcmjadaaDrawX
namespace Go.Proofs.Ytnkgbolgcmjadaa
open Go.RowKit Go.Joins
/-- what a draw of a syndrome hands back -/
def OutS1 (w : World) (e : Ending) (w' : World) : Prop := ∃ v rs, e = .returned v ∧ RowsIn w' w.heap.size v rs ∧ SynP rs ∧ Below w.heap.size w w'
/-- what a draw of a syndrome and a number hands back -/
def OutS2 (w : World) (e : Ending) (w' : World) : Prop := ∃ v rs x, e = .returned (.tuple #[v, .int .i64 x]) ∧ RowsIn w' w.heap.size v rs ∧ SynP rs ∧ -1000 ≤ x ∧ x ≤ 1000 ∧ Below w.heap.size w w'
theorem below_of_grown9 {w w1 w' : World} {b : Nat} (h : Below w.heap.size w w1) (hb : w.heap.size ≤ b) (hg : w1.grownBy w' (some b)) : Below w.heap.size w w' :=
  h.grown hg h.size (fun k hk => by cases hk; exact hb)
theorem w64 (z : Int) (h0 : -1000000 ≤ z) (h1 : z ≤ 1000000) : IntKind.i64.wrap z = z := IntWalk.i64_in _ (by omega)
theorem drewS_small {rs : List RW} (h : SynP rs) : rs.length ≤ 5 := h.1
theorem pick_zero (b c : Nat) (w : World) (hr : Rd w b c) (hc : c ≤ 1099511627776) :
    Calls Try.prog 43 #[.pointer (some ⟨b, 0, none⟩), .int .i64 0] w fun e w' => e = .returned (.int .i64 0) ∧ Rd w' b (c + 1) ∧ w.grownBy w' (some b) := by
  obtain ⟨ao, m, cap, p, h0, hm, hcl, h1, hp, hf⟩ := hr
  have Hcl := Lib.hid hcl
  have hg : w.grownBy (w.setCell ⟨b, 1, none⟩ (.int .i64 ((p : Int) + 1))) (some b) := ⟨rfl, rfl, rfl, by simp [World.setCell], fun i _ hne => Below.heap_setCell _ _ _ _ (by intro e; exact hne (by rw [e]))⟩
  have hlt : b < w.heap.size := World.block_lt_of_cell? w _ h0
  have Hrd : Hid (Rd (w.setCell ⟨b, 1, none⟩ (.int .i64 ((p : Int) + 1))) b (c + 1)) := by
    refine ⟨ao, m, cap, p + 1, by go_simp, hm, fun j hj => ?_, by go_simp, by omega, by go_simp⟩
    obtain ⟨bb, off, ha, hb, z, hz, hcell⟩ := hcl j hj
    refine ⟨bb, off, ha, hb, z, hz, ?_⟩
    rw [← hcell]
    exact World.cell?_of_block (w := w) (hg.block bb (by omega) (fun e => by cases e; omega))
  have Hg := Lib.hid hg
  clear hcl hg
  go_enter Try.func43, Try.ntmps43
  go_wp2
  go_ret
  exact ⟨rfl, Hrd.out, Hg.out⟩
/-- a number below so many, of which there may be none -/
theorem pick_any (n b c : Nat) (w : World) (hr : Rd w b c) (hn : n ≤ 1000) (hc : c ≤ 1099511627776) :
    Calls Try.prog 43 #[.pointer (some ⟨b, 0, none⟩), .int .i64 n] w fun e w' => ∃ x : Int, 0 ≤ x ∧ x ≤ n ∧ e = .returned (.int .i64 x) ∧ Rd w' b (c + 1) ∧ w.grownBy w' (some b) := by
  by_cases h : n = 0
  · subst h
    refine (pick_zero b c w hr hc).mono ?_
    rintro e w' ⟨rfl, h1, h2⟩
    exact ⟨0, by omega, by omega, rfl, h1, h2⟩
  · refine (pick n b c w hr (by omega) (by omega) hc).mono ?_
    rintro e w' ⟨x, h0, h1, rfl, h2, h3⟩
    exact ⟨x, h0, by omega, rfl, h2, h3⟩
set_option maxRecDepth 100000 in
set_option maxHeartbeats 2000000 in
theorem drawSyndromeOk (a : Value) (n : Nat) (w : World) (hr : RdBytes w w.heap.size a n) :
    Calls Try.prog 11 #[a] w (OutS1 w) := by
  have Hl := Lib.hid (fun b c w h1 h2 => l20Syndrome b c 2 w h1 h2 (by omega))
  go_enter Try.func11, Try.ntmps11
  go_wp2_with fail
  refine (l20Open _ _ _ hr).mono ?_
  rintro e w1 ⟨b, rfl, hb, hrd, hbel⟩
  go_wp2_with fail
  refine (Hl.out _ _ _ hrd (by omega)).mono ?_
  rintro e w2 ⟨v, rs, rfl, hri, hsp, hrd2, hg2⟩
  obtain ⟨ao, cap, rfl⟩ := own_len9 hri.1
  have Hri := Lib.hid (hri.mono hbel.size)
  have HB := Lib.hid (below_of_grown9 hbel hb hg2)
  clear hri hbel hg2 hrd hrd2
  go_wp2
  go_ret
  exact ⟨_, rs, rfl, Hri.out, hsp, HB.out⟩
set_option maxRecDepth 100000 in
set_option maxHeartbeats 2000000 in
theorem drawOnlyFaults (a : Value) (n : Nat) (w : World) (hr : RdBytes w w.heap.size a n) :
    Calls Try.prog 28 #[a] w (OutS1 w) := by
  have Hl := Lib.hid (fun b c w h1 h2 => l20Syndrome b c 9 w h1 h2 (by omega))
  go_enter Try.func28, Try.ntmps28
  go_wp2_with fail
  refine (l20Open _ _ _ hr).mono ?_
  rintro e w1 ⟨b, rfl, hb, hrd, hbel⟩
  go_wp2_with fail
  refine (Hl.out _ _ _ hrd (by omega)).mono ?_
  rintro e w2 ⟨v, rs, rfl, hri, hsp, hrd2, hg2⟩
  obtain ⟨ao, cap, rfl⟩ := own_len9 hri.1
  have Hri := Lib.hid (hri.mono hbel.size)
  have HB := Lib.hid (below_of_grown9 hbel hb hg2)
  clear hri hbel hg2 hrd hrd2
  go_wp2
  go_ret
  exact ⟨_, rs, rfl, Hri.out, hsp, HB.out⟩
set_option maxRecDepth 100000 in
set_option maxHeartbeats 2000000 in
theorem drawSureMost (a : Value) (n : Nat) (w : World) (hr : RdBytes w w.heap.size a n) :
    Calls Try.prog 25 #[a] w fun e w' => ∃ x : Int, e = .returned (.int .i64 x) ∧ -1 ≤ x ∧ x ≤ 7 ∧ Below w.heap.size w w' := by
  go_enter Try.func25, Try.ntmps25
  go_wp2_with fail
  refine (l20Open _ _ _ hr).mono ?_
  rintro e w1 ⟨b, rfl, hb, hrd, hbel⟩
  go_wp2_with fail
  refine (pick _ _ _ _ hrd (by omega) (by omega) (by omega)).mono ?_
  rintro e w2 ⟨x, hx0, hx1, rfl, hrd2, hg2⟩
  have HB := Lib.hid (below_of_grown9 hbel hb hg2)
  clear hbel hg2 hrd hrd2
  go_wp2
  go_ret
  exact ⟨x - 1, rfl, by omega, by omega, HB.out⟩
set_option maxRecDepth 100000 in
set_option maxHeartbeats 2000000 in
theorem drawFaultSets (a : Value) (n : Nat) (w : World) (hr : RdBytes w w.heap.size a n) :
    Calls Try.prog 18 #[a] w (OutS2 w) := by
  have Hl := Lib.hid (fun b c w h1 h2 => l20Syndrome b c 12 w h1 h2 (by omega))
  go_enter Try.func18, Try.ntmps18
  go_wp2_with fail
  refine (l20Open _ _ _ hr).mono ?_
  rintro e w1 ⟨b, rfl, hb, hrd, hbel⟩
  have hbw := hrd.lt
  go_wp2_with fail
  refine (Hl.out _ _ _ hrd (by omega)).mono ?_
  rintro e w2 ⟨v, rs, rfl, hri, hsp, hrd2, hg2⟩
  obtain ⟨ao, cap, rfl⟩ := own_len9 hri.1
  go_wp2_with fail
  refine (pick _ _ _ _ hrd2 (by omega) (by omega) (by omega)).mono ?_
  rintro e w3 ⟨x, hx0, hx1, rfl, hrd3, hg3⟩
  go_wp2_with fail
  refine (pick _ _ _ _ hrd3 (by omega) (by omega) (by omega)).mono ?_
  rintro e w4 ⟨y, hy0, hy1, rfl, hrd4, hg4⟩
  have Hri := Lib.hid (((hri.row hg3 hbw).row hg4 hbw).mono hbel.size)
  have HB := Lib.hid (below_of_grown9 hbel hb (grownBy_trans hg2 (grownBy_trans hg3 hg4)))
  clear hri hbel hg2 hg3 hg4 hrd hrd2 hrd3 hrd4
  go_wp2
  exact bodyPost_ret (v := .tuple #[.slice ao rs.length cap, .int .i64 (x - y / 39 * 6)]) (by simp [results, Try.results18, go_sem]) rfl ⟨_, rs, x - y / 39 * 6, rfl, Hri.out, hsp, by omega, by omega, HB.out⟩
set_option maxRecDepth 100000 in
set_option maxHeartbeats 2000000 in
theorem drawVotesAgainst (a : Value) (n : Nat) (w : World) (hr : RdBytes w w.heap.size a n) :
    Calls Try.prog 31 #[a] w (OutS2 w) := by
  have Hl := Lib.hid (fun b c w h1 h2 => l20Syndrome b c 12 w h1 h2 (by omega))
  go_enter Try.func31, Try.ntmps31
  go_wp2_with fail
  refine (l20Open _ _ _ hr).mono ?_
  rintro e w1 ⟨b, rfl, hb, hrd, hbel⟩
  have hbw := hrd.lt
  go_wp2_with fail
  refine (Hl.out _ _ _ hrd (by omega)).mono ?_
  rintro e w2 ⟨v, rs, rfl, hri, hsp, hrd2, hg2⟩
  obtain ⟨ao, cap, rfl⟩ := own_len9 hri.1
  have hrl := drewS_small hsp
  go_wp2_with fail
  refine (pick_any _ _ _ _ hrd2 (by omega) (by omega)).mono ?_
  rintro e w3 ⟨x, hx0, hx1, rfl, hrd3, hg3⟩
  go_wp2_with fail
  refine (pick _ _ _ _ hrd3 (by omega) (by omega) (by omega)).mono ?_
  rintro e w4 ⟨y, hy0, hy1, rfl, hrd4, hg4⟩
  have Hri := Lib.hid (((hri.row hg3 hbw).row hg4 hbw).mono hbel.size)
  have HB := Lib.hid (below_of_grown9 hbel hb (grownBy_trans hg2 (grownBy_trans hg3 hg4)))
  have hx5 : x ≤ 5 := by omega
  clear hri hbel hg2 hg3 hg4 hrd hrd2 hrd3 hrd4 hx1
  go_wp2
  exact bodyPost_ret (v := .tuple #[.slice ao rs.length cap, .int .i64 (x + y / 39 * 5)]) (by simp [results, Try.results31, go_sem]) rfl ⟨_, rs, x + y / 39 * 5, rfl, Hri.out, hsp, by omega, by omega, HB.out⟩
set_option maxRecDepth 100000 in
set_option maxHeartbeats 4000000 in
theorem drawMadeSyndrome (a : Value) (n : Nat) (w : World) (hr : RdBytes w w.heap.size a n) :
    Calls Try.prog 34 #[a] w fun e w' => ∃ p x q : Int, e = .returned (.tuple #[.int .i64 p, .int .i64 x, .int .i64 q]) ∧ 1 ≤ p ∧ p ≤ 100 ∧ 0 ≤ x ∧ x ≤ 1000 ∧ -100000 ≤ q ∧ q ≤ 100000 ∧ Below w.heap.size w w' := by
  go_enter Try.func34, Try.ntmps34
  go_wp2_with fail
  refine (l20Open _ _ _ hr).mono ?_
  rintro e w1 ⟨b, rfl, hb, hrd, hbel⟩
  go_wp2_with fail
  refine (pick _ _ _ _ hrd (by omega) (by omega) (by omega)).mono ?_
  rintro e w2 ⟨u, hu0, hu1, rfl, hrd2, hg2⟩
  obtain ⟨u, rfl⟩ := Int.eq_ofNat_of_zero_le hu0
  go_wp2_with fail
  obtain ⟨U, hU⟩ : ∃ U, U = 1 + u := ⟨_, rfl⟩
  have hU1 : 1 ≤ U := by omega
  have hU5 : U ≤ 5 := by omega
  have e1 : (1 : Int) + (u : Int) = (U : Int) := by omega
  rw [e1]
  obtain ⟨N, hN⟩ : ∃ N, N = 2 ^ U := ⟨_, rfl⟩
  have hN32 : N ≤ 32 := by rw [hN]; exact two32 hU5
  have hN1 : 1 ≤ N := by rw [hN]; exact Nat.one_le_two_pow
  have hsh := shl_5 hU5 hN
  have hshk := shl_5k hU5 hN
  have hmn : min U 64 = U := by omega
  clear hrd hN hu0 hu1 e1 hU
  go_region_with (go_at_call 43
                  refine (pick _ _ _ _ (by assumption) (by first | omega | decide) (by first | omega | decide) (by omega)).mono ?_
                  rintro e wn ⟨y, hy0, hy1, rfl, hrdn, hgn⟩)
  rename_i wa ya hya0 hya1 hrda hga wb yb hyb0 hyb1 hrdb hgb wc yc hyc0 hyc1 hrdc hgc wd yd hyd0 hyd1 hrdd hgd we ye hye0 hye1 hrde hge
  have HB := Lib.hid (below_of_grown9 hbel hb (grownBy_trans (grownBy_trans (grownBy_trans (grownBy_trans (grownBy_trans (grownBy_trans hg2 (grownBy_drew0 hga)) hgb) hgc) hgd) hge) hgn))
  have hyb2 : yb < 32 := by omega
  have HP : Hid (1 ≤ IntKind.i64.wrap ((U : Int) + IntKind.i64.wrap (IntKind.i64.wrap (ya.tdiv 39) * 5)) ∧ IntKind.i64.wrap ((U : Int) + IntKind.i64.wrap (IntKind.i64.wrap (ya.tdiv 39) * 5)) ≤ 100) := by
    unfold Hid; rw [Int.tdiv_eq_ediv_of_nonneg hya0, w64 (ya / 39) (by omega) (by omega), w64 (ya / 39 * 5) (by omega) (by omega), w64 (U + ya / 39 * 5) (by omega) (by omega)]; omega
  have HX : Hid (0 ≤ IntKind.i64.wrap (yb + IntKind.i64.wrap (IntKind.i64.wrap (yc.tdiv 39) * 32)) ∧ IntKind.i64.wrap (yb + IntKind.i64.wrap (IntKind.i64.wrap (yc.tdiv 39) * 32)) ≤ 1000) := by
    unfold Hid; rw [Int.tdiv_eq_ediv_of_nonneg hyc0, w64 (yc / 39) (by omega) (by omega), w64 (yc / 39 * 32) (by omega) (by omega), w64 (yb + yc / 39 * 32) (by omega) (by omega)]; omega
  have HQ : Hid (-100000 ≤ IntKind.i64.wrap (IntKind.i64.wrap (IntKind.i64.wrap (yd * 256) + ye) - IntKind.i64.wrap (IntKind.i64.wrap (y.tdiv 59) * 70000)) ∧ IntKind.i64.wrap (IntKind.i64.wrap (IntKind.i64.wrap (yd * 256) + ye) - IntKind.i64.wrap (IntKind.i64.wrap (y.tdiv 59) * 70000)) ≤ 100000) := by
    unfold Hid; rw [Int.tdiv_eq_ediv_of_nonneg hy0, w64 (y / 59) (by omega) (by omega), w64 (y / 59 * 70000) (by omega) (by omega), w64 (yd * 256) (by omega) (by omega), w64 (yd * 256 + ye) (by omega) (by omega), w64 (yd * 256 + ye - y / 59 * 70000) (by omega) (by omega)]; omega
  clear hbel hga hgb hgc hgd hge hgn hg2 hrd2 hrda hrdb hrdc hrdd hrde hrdn hya0 hya1 hyb0 hyb1 hyb2 hyc0 hyc1 hyd0 hyd1 hye0 hye1 hy0 hy1 hsh hshk hmn hN32 hN1
  generalize IntKind.i64.wrap ((U : Int) + IntKind.i64.wrap (IntKind.i64.wrap (ya.tdiv 39) * 5)) = P at *
  generalize IntKind.i64.wrap (yb + IntKind.i64.wrap (IntKind.i64.wrap (yc.tdiv 39) * 32)) = X at *
  generalize IntKind.i64.wrap (IntKind.i64.wrap (IntKind.i64.wrap (yd * 256) + ye) - IntKind.i64.wrap (IntKind.i64.wrap (y.tdiv 59) * 70000)) = Q at *
  go_wp2
  exact bodyPost_ret (v := .tuple #[.int .i64 P, .int .i64 X, .int .i64 Q]) (by simp [results, Try.results34, go_sem]) rfl ⟨P, X, Q, rfl, HP.out.1, HP.out.2, HX.out.1, HX.out.2, HQ.out.1, HQ.out.2, HB.out⟩
set_option maxRecDepth 100000 in
set_option maxHeartbeats 4000000 in
theorem drawFitsFaults (a : Value) (n : Nat) (w : World) (hr : RdBytes w w.heap.size a n) :
    Calls Try.prog 14 #[a] w (OutS2 w) := by
  have Hl := Lib.hid (fun b c w h1 h2 => l20Syndrome b c 14 w h1 h2 (by omega))
  go_enter Try.func14, Try.ntmps14
  go_wp2_with fail
  refine (l20Open _ _ _ hr).mono ?_
  rintro e w1 ⟨b, rfl, hb, hrd, hbel⟩
  have hbw := hrd.lt
  go_wp2_with fail
  refine (Hl.out _ _ _ hrd (by omega)).mono ?_
  rintro e w2 ⟨v, rs, rfl, hri, hsp, hrd2, hg2⟩
  obtain ⟨ao, cap, rfl⟩ := own_len9 hri.1
  have hrl := drewS_small hsp
  go_wp2_with fail
  refine (specFaultSets rs 5 _ _ _ hri.rd (Nat.le_refl _)).mono ?_
  rintro e w3 ⟨v3, rfl, ho3, hb3⟩
  obtain ⟨a3, c3, rfl⟩ := own_len9 ho3
  have Hl32 := Lib.hid (sets_small9 (rs.map (·.2)) 5)
  have Hlx := Lib.hid (sets_range9 (rs.map (·.2)) 5)
  have hbw2 : b < w2.heap.size := by have := hg2.size; omega
  have Hri3 := Lib.hid (hri.below hb3)
  have hg3 := grownBy_trans hg2 (only_of_below9 hb3 (some b))
  have hrd3 := hrd2.grown (only_of_below9 hb3 none) (fun k hk => by cases hk)
  clear hri hb3 hrd2 hg2
  generalize setsN (rs.map (·.2)) 5 = L at *
  by_cases hL : 0 < L.length
  · go_wp2_with fail
    refine (pick _ _ _ _ hrd3 (by omega) (by omega) (by omega)).mono ?_
    rintro e w4 ⟨y, hy0, hy1, rfl, hrd4, hg4⟩
    have Hri4 := Lib.hid (Hri3.out.row hg4 hbw)
    have hg34 := grownBy_trans hg3 hg4
    have hy : y = 0 ∨ y = 1 := by omega
    clear hy0 hy1
    rcases hy with rfl | rfl
    · have ho4 := own_row9 ho3 hg4 hbw2
      obtain ⟨g3, c3', hv3⟩ := ownsRow_form ho4 hL
      obtain ⟨rfl, rfl⟩ : a3 = some ⟨g3, 0, none⟩ ∧ c3 = c3' := by simpa using hv3
      have Ho4 := Lib.hid ho4
      have hLl := Hl32.out
      clear ho3 ho4 hg3 hg4 hv3 hrd3
      go_wp2_with fail
      go_region_with (go_at_call 43
                      refine (pick _ _ _ _ (by assumption) (by first | omega | decide) (by first | omega | decide) (by omega)).mono ?_
                      rintro e w5 ⟨x, hx0, hx1, rfl, hrd5, hg5⟩
                      go_must (obtain ⟨X, rfl⟩ := Int.eq_ofNat_of_zero_le hx0
                               have hG5 : w4.grownBy w5 (some b) := by first | exact hg5 | exact grownBy_drew0 hg5
                               have ho5 := own_row9 Ho4.out hG5 hbw2
                               have hcx : w5.cell? ⟨g3, X, none⟩ = some (.int .i64 (L.getD X 0 : Nat)) := by
                                 rw [ho5.cellAt X (by omega)]; exact vals_getD L (by omega)
                               have Hri5 := Lib.hid ((Hri4.out.row hG5 hbw).mono hbel.size)
                               have HB5 := Lib.hid (below_of_grown9 hbel hb (grownBy_trans hg34 hG5))
                               have hlx := Hlx.out X
                               clear ho5 hG5 hg5
                               generalize L.getD X 0 = lx at *))
      all_goals
        go_wp2
        exact bodyPost_ret (v := .tuple #[.slice ao rs.length cap, .int .i64 lx]) (by simp [results, Try.results14, go_sem]) rfl ⟨_, rs, lx, rfl, Hri5.out, hsp, by omega, by omega, HB5.out⟩
    · clear hrd3 hg3 hg4
      obtain ⟨N, hN⟩ : ∃ N, N = 2 ^ rs.length := ⟨_, rfl⟩
      have hN32 : N ≤ 32 := by rw [hN]; exact two32 hrl
      have hN1 : 1 ≤ N := by rw [hN]; exact Nat.one_le_two_pow
      have hsh := shl_5 hrl hN
      have hshk := shl_5k hrl hN
      have hmn : min rs.length 64 = rs.length := by omega
      clear hN
      go_wp2_with fail
      refine (pick _ _ _ _ hrd4 (by omega) (by omega) (by omega)).mono ?_
      rintro e w5 ⟨x, hx0, hx1, rfl, hrd5, hg5⟩
      go_wp2_with fail
      refine (pick _ _ _ _ hrd5 (by omega) (by omega) (by omega)).mono ?_
      rintro e w6 ⟨z, hz0, hz1, rfl, hrd6, hg6⟩
      have Hri6 := Lib.hid (((Hri4.out.row hg5 hbw).row hg6 hbw).mono hbel.size)
      have HB := Lib.hid (below_of_grown9 hbel hb (grownBy_trans hg34 (grownBy_trans hg5 hg6)))
      have hx32 : x < 32 := by omega
      clear hx1 hg5 hg6 hrd5 hrd6 hsh hshk hmn hN32 hN1 hbel
      go_wp2
      exact bodyPost_ret (v := .tuple #[.slice ao rs.length cap, .int .i64 (x + z / 39 * 32)]) (by simp [results, Try.results14, go_sem]) rfl ⟨_, rs, x + z / 39 * 32, rfl, Hri6.out, hsp, by omega, by omega, HB.out⟩
  · have hL0 : L.length = 0 := by omega
    obtain ⟨N, hN⟩ : ∃ N, N = 2 ^ rs.length := ⟨_, rfl⟩
    have hN32 : N ≤ 32 := by rw [hN]; exact two32 hrl
    have hN1 : 1 ≤ N := by rw [hN]; exact Nat.one_le_two_pow
    have hsh := shl_5 hrl hN
    have hshk := shl_5k hrl hN
    have hmn : min rs.length 64 = rs.length := by omega
    clear hN
    go_wp2_with fail
    refine (pick _ _ _ _ hrd3 (by omega) (by omega) (by omega)).mono ?_
    rintro e w5 ⟨x, hx0, hx1, rfl, hrd5, hg5⟩
    go_wp2_with fail
    refine (pick _ _ _ _ hrd5 (by omega) (by omega) (by omega)).mono ?_
    rintro e w6 ⟨z, hz0, hz1, rfl, hrd6, hg6⟩
    have Hri6 := Lib.hid (((Hri3.out.row hg5 hbw).row hg6 hbw).mono hbel.size)
    have HB := Lib.hid (below_of_grown9 hbel hb (grownBy_trans hg3 (grownBy_trans hg5 hg6)))
    have hx32 : x < 32 := by omega
    clear hx1 hg5 hg6 hrd5 hrd6 hsh hshk hmn hN32 hN1 hbel
    go_wp2
    exact bodyPost_ret (v := .tuple #[.slice ao rs.length cap, .int .i64 (x + z / 39 * 32)]) (by simp [results, Try.results14, go_sem]) rfl ⟨_, rs, x + z / 39 * 32, rfl, Hri6.out, hsp, by omega, by omega, HB.out⟩
end Go.Proofs.Ytnkgbolgcmjadaa

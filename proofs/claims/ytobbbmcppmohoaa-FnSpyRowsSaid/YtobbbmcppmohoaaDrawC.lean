/- The reference model's draws of claims and stories. -/
import Derived.Test.YtobbbmcppmohoaaClaimS
import Derived.Test.YtobbbmcppmohoaaDrawN
import Derived.Deep.RegionHeld3
import Derived.Deep.Cut
import Derived.OwnWalk
import Derived.Test.YtobbbmcppmohoaaLawsA
namespace Go.Proofs.Ytobbbmcppmohoaa
open Go.RowKit Go.Joins
/-- a drawn claim, what it says in a row of the call's own -/
def DrewC (b c : Nat) (w : World) (e : Ending) (w' : World) : Prop :=
  ∃ (k : Int) (g cap : Nat) (ms : List (Int × Int)), e = .returned (.agg #[.int .i64 k, .slice (some ⟨g, 0, none⟩) ms.length cap]) ∧ w'.ownsRow w.heap.size TM 2 (.slice (some ⟨g, 0, none⟩) ms.length cap) ms.length (mcells ms) ∧ I64s ms ∧ ms.length ≤ 20 ∧ -1 ≤ k ∧ k ≤ 4 ∧ Rd w' b c ∧ w.grownBy w' (some b)
def v4ne (v : Value) (g : Nat) : Prop := v.ownBlock ≠ some g
/-- the claim laid in the result's variable, as it is handed back -/
theorem claim_out {w w2 w5 : World} {b c' g cap : Nat} {k : Int} {a0 b0 : Value} {ms : List (Int × Int)} (hbw : b < w.heap.size) (hsz : w.heap.size < w2.heap.size) (hx : Box w5 w.heap.size a0 b0) (hown : w5.ownsRow w2.heap.size TM 2 (.slice (some ⟨g, 0, none⟩) ms.length cap) ms.length (mcells ms))
    (hi : I64s ms) (hn : ms.length ≤ 20) (h1 : -1 ≤ k) (h4 : k ≤ 4) (hrd : Rd w5 b c') (hG : w.grownBy w5 (some b)) :
    ∃ w6, w6 = (w5.setCell ⟨w.heap.size, 0, none⟩ (.int .i64 k)).setCell ⟨w.heap.size, 1, none⟩ (.slice (some ⟨g, 0, none⟩) ms.length cap) ∧ Box w6 w.heap.size (.int .i64 k) (.slice (some ⟨g, 0, none⟩) ms.length cap) ∧
      DrewC b c' w (.returned (.agg #[.int .i64 k, .slice (some ⟨g, 0, none⟩) ms.length cap])) w6 := by
  obtain ⟨w6, e6, h6, g6⟩ := hx.set (.int .i64 k) (.slice (some ⟨g, 0, none⟩) ms.length cap)
  refine ⟨w6, e6, h6, k, g, cap, ms, rfl, own_mono (own_row hown g6 hsz) (by omega), hi, hn, h1, h4, hrd.grown g6 (fun q hq => by cases hq; exact hbw), ?_⟩
  exact grown_own hG g6 (fun q hq => by cases hq; exact Nat.le_refl _)
set_option maxRecDepth 100000 in
set_option maxHeartbeats 2000000 in
theorem l20Claim (p : Int) (n : Nat) (b c : Nat) (w : World) (hrd : Rd w b c) (hp1 : 1 ≤ p) (hp4 : p ≤ 4) (hn : n ≤ 1000000) (hc : c ≤ 274877906944) :
    Calls Try.prog 85 #[.pointer (some ⟨b, 0, none⟩), .int .i64 p, .int .i64 n] w (DrewC b (c + 103) w) := by
  have hbw := hrd.lt
  go_enter Try.func85, Try.ntmps85
  go_upto_region 1 with fail
  obtain ⟨w1, hw1, hx1, hbw1, hsz⟩ := Box.new w (.int .i64 0) (.slice none 0 0) TC
  have hrd1 : Rd w1 b c := by rw [hw1]; exact hrd.alloc _
  have hG1 : w.grownBy w1 (some b) := by rw [hw1]; exact only_alloc (World.grownBy.refl _ _) _
  rw [← hw1]
  clear hw1 hrd
  go_wp2_with fail
  refine (pick p b c _ hrd1 hp1 (by omega) (by omega)).mono ?_
  rintro e w2 ⟨x, hx0, hxp, rfl, hrd2, hg2⟩
  have hG2 := grownBy_trans hG1 hg2
  have hx2 := hx1.grown hg2 (by simp; omega)
  clear hg2 hG1 hx1 hrd1 hbw1
  have hsz2 := hx2.2.2.2.2
  go_wp2_with fail
  rw [show ((n : Int) * 2) = ((n * 2 : Nat) : Int) by simp]
  refine (l20Term p (n * 2) b (c + 1) _ hrd2 hp1 hp4 (by omega) (by omega)).mono ?_
  rintro e w3 ⟨g, nn, cap, ms, rfl, hlen, hown, hi, hn20, hrd3, hg3⟩
  subst hlen
  have hG3 := grownBy_trans hG2 hg3
  have hx3 := hx2.grown hg3 (by simp; omega)
  have hsz3 := hx3.2.2.2.2
  have hs23 := hg3.size
  have Hi := Lib.hid hi
  clear hg3 hG2 hx2 hrd2 hi
  go_upto_region 2 with fail
  obtain ⟨w4, hw4, hy4, hb4, hsz4⟩ := Box.new w3 (.int .i64 x) (.slice (some ⟨g, 0, none⟩) ms.length cap) TC
  have hrd4 : Rd w4 b (c + 1 + 100) := by rw [hw4]; exact hrd3.alloc _
  have hG4 : w.grownBy w4 (some b) := by rw [hw4]; exact only_alloc hG3 _
  have hown4 : w4.ownsRow w2.heap.size TM 2 (.slice (some ⟨g, 0, none⟩) ms.length cap) ms.length (mcells ms) := by rw [hw4]; exact hown.alloc _
  have hx4 : Box w4 w.heap.size (.int .i64 0) (.slice none 0 0) := hx3.below hb4
  have hne4 : v4ne (.slice (some ⟨g, 0, none⟩) ms.length cap) w3.heap.size := by
    intro e
    have := (hown.lt w3.heap.size e).2
    omega
  rw [← hw4]
  clear hw4 hrd3 hG3 hx3 hb4 hown
  go_wp2_with fail
  refine (odd n b (c + 1 + 100) _ hrd4 (by omega) (by omega)).mono ?_
  rintro e w5 ⟨o, rfl, hrd5, hg5⟩
  have hG5 := grownBy_trans hG4 hg5
  have hx5 := hx4.grown hg5 (by simp; omega)
  have hy5 := hy4.grown hg5 (by simp; omega)
  have hown5 := own_row hown4 hg5 (by omega)
  clear hg5 hG4 hrd4 hown4 hx4 hy4
  cases o with
  | false =>
    have Hout := Lib.hid (claim_out (c' := c + 103) hbw hsz2 hx5 hown5 Hi.out hn20 (show -1 ≤ x by omega) (show x ≤ 4 by omega) (hrd5.mono (show c + 1 + 100 + 1 ≤ c + 103 by omega)) hG5)
    obtain ⟨x1, x2, x3, x4, x5⟩ := hx5
    obtain ⟨y1, y2, y3, y4, y5⟩ := hy5
    clear hrd5 hG5 hown5
    go_wp2
    obtain ⟨w6, hw6, hx6, hout⟩ := Hout.out
    rw [← hw6]
    obtain ⟨z1, z2, _⟩ := hx6
    exact bodyPost_ret (v := .agg #[.int .i64 x, .slice (some ⟨g, 0, none⟩) ms.length cap]) (by simp [results, Try.results85, go_sem, z1, z2]) rfl hout
  | true =>
    obtain ⟨w6, hw6, ha6, hb6, hsz6⟩ := Box.new w5 (.int .i64 (-1)) (.int .i64 4) 3
    have hrd6 : Rd w6 b (c + 1 + 100 + 1) := by rw [hw6]; exact hrd5.alloc _
    have hG6 : w.grownBy w6 (some b) := by rw [hw6]; exact only_alloc hG5 _
    have hown6 : w6.ownsRow w2.heap.size TM 2 (.slice (some ⟨g, 0, none⟩) ms.length cap) ms.length (mcells ms) := by rw [hw6]; exact hown5.alloc _
    have hx6 := hx5.below hb6
    have hy6 := hy5.below hb6
    have hsz5 := hy5.2.2.2.2
    clear hrd5 hG5 hown5 hx5 hy5 hb6
    go_wp2_with fail
    rw [← hw6]
    clear hw6
    refine (pick 2 b (c + 1 + 100 + 1) _ hrd6 (by omega) (by omega) (by omega)).mono ?_
    rintro e w7 ⟨y, hy0, hy1, rfl, hrd7, hg7⟩
    have hG7 := grownBy_trans hG6 hg7
    have hx7 := hx6.grown hg7 (by simp; omega)
    have hy7 := hy6.grown hg7 (by simp; omega)
    have ha7 := ha6.grown hg7 (by simp; omega)
    have hown7 := own_row hown6 hg7 (by omega)
    clear hg7 hG6 hrd6 hown6 hx6 hy6 ha6
    obtain ⟨K, hK1, hK4, hKy⟩ : ∃ K : Int, -1 ≤ K ∧ K ≤ 4 ∧ ((y = 0 ∧ K = -1) ∨ (y = 1 ∧ K = 4)) := by
      by_cases h : y = 0
      · exact ⟨-1, by omega, by omega, .inl ⟨h, rfl⟩⟩
      · exact ⟨4, by omega, by omega, .inr ⟨by omega, rfl⟩⟩
    obtain ⟨w8, e8, hy8, hg8⟩ := hy7.set0 (.int .i64 K)
    have hG8 : w.grownBy w8 (some b) := grown_own hG7 hg8 (fun q hq => by cases hq; omega)
    have hx8 := hx7.grown hg8 (by simp; omega)
    have hown8 : w8.ownsRow w2.heap.size TM 2 (.slice (some ⟨g, 0, none⟩) ms.length cap) ms.length (mcells ms) := hown7.kept hg8 (.inr hne4)
    have hrd8 : Rd w8 b (c + 1 + 100 + 1 + 1) := hrd7.grown hg8 (fun q hq => by cases hq; omega)
    have Hout := Lib.hid (claim_out (c' := c + 103) hbw hsz2 hx8 hown8 Hi.out hn20 hK1 hK4 (hrd8.mono (show c + 1 + 100 + 1 + 1 ≤ c + 103 by omega)) hG8)
    obtain ⟨x1, x2, x3, x4, x5⟩ := hx8
    obtain ⟨u1, u2, u3, u4, u5⟩ := hy8
    obtain ⟨y1, y2, y3, y4, y5⟩ := hy7
    obtain ⟨a1, a2, a3, a4, a5⟩ := ha7
    have E8 := Lib.hid e8
    clear hrd7 hrd8 hG7 hG8 hown7 hown8 hx7 hg8 e8 hy0 hy1 hK1 hK4
    rcases hKy with ⟨rfl, rfl⟩ | ⟨rfl, rfl⟩
    all_goals
      go_upto_region 4 with fail
      rw [← E8.out]
      clear y1 y2 y3 y4 y5
      go_wp2
      obtain ⟨w9, hw9, hx9, hout⟩ := Hout.out
      rw [← hw9]
      obtain ⟨z1, z2, _⟩ := hx9
      exact bodyPost_ret (by simp [results, Try.results85, go_sem, z1, z2]) rfl hout
/-- a number of people, and a drawn claim -/
def DrewPC (b c : Nat) (w : World) (e : Ending) (w' : World) : Prop :=
  ∃ (p k : Int) (g cap : Nat) (ms : List (Int × Int)), 1 ≤ p ∧ p ≤ 4 ∧ e = .returned (.tuple #[.int .i64 p, .agg #[.int .i64 k, .slice (some ⟨g, 0, none⟩) ms.length cap]]) ∧ w'.ownsRow w.heap.size TM 2 (.slice (some ⟨g, 0, none⟩) ms.length cap) ms.length (mcells ms) ∧ I64s ms ∧ ms.length ≤ 20 ∧ -1 ≤ k ∧ k ≤ 4 ∧ Rd w' b c ∧ w.grownBy w' (some b)
set_option maxRecDepth 100000 in
set_option maxHeartbeats 2000000 in
theorem l20Claimed (n : Nat) (b c : Nat) (w : World) (hrd : Rd w b c) (hn : n ≤ 1000000) (hc : c ≤ 137438953472) :
    Calls Try.prog 62 #[.pointer (some ⟨b, 0, none⟩), .int .i64 n] w (DrewPC b (c + 104) w) := by
  have hbw := hrd.lt
  go_enter Try.func62, Try.ntmps62
  go_upto_region 1 with fail
  obtain ⟨w1, hw1, hx1, hbw1, hsz⟩ := Box.new w (.int .i64 0) (.slice none 0 0) TC
  have hrd1 : Rd w1 b c := by rw [hw1]; exact hrd.alloc _
  have hG1 : w.grownBy w1 (some b) := by rw [hw1]; exact only_alloc (World.grownBy.refl _ _) _
  rw [← hw1]
  clear hw1 hrd hbw1
  go_wp2_with fail
  refine (pick 4 b c _ hrd1 (by omega) (by omega) (by omega)).mono ?_
  rintro e w2 ⟨x, hx0, hxp, rfl, hrd2, hg2⟩
  have hG2 := grownBy_trans hG1 hg2
  have hx2 := hx1.grown hg2 (by simp; omega)
  have hP1 : 1 ≤ 1 + x := by omega
  have hP4 : 1 + x ≤ 4 := by omega
  have hsz2 := hx2.2.2.2.2
  clear hg2 hG1 hx1 hrd1 hx0 hxp
  go_wp2_with fail
  generalize 1 + x = p at *
  refine (l20Claim p n b (c + 1) _ hrd2 hP1 hP4 hn (by omega)).mono ?_
  rintro e w3 ⟨k, g, cap, ms, rfl, hown, hi, hn20, hk1, hk4, hrd3, hg3⟩
  have hG3 := grownBy_trans hG2 hg3
  have hx3 := hx2.grown hg3 (by simp; omega)
  obtain ⟨w4, e4, hx4, hg4⟩ := hx3.set (.int .i64 k) (.slice (some ⟨g, 0, none⟩) ms.length cap)
  have hout : DrewPC b (c + 104) w (.returned (.tuple #[.int .i64 p, .agg #[.int .i64 k, .slice (some ⟨g, 0, none⟩) ms.length cap]])) w4 :=
    ⟨p, k, g, cap, ms, hP1, hP4, rfl, own_mono (own_row hown hg4 hsz2) (by omega), hi, hn20, hk1, hk4, (hrd3.grown hg4 (fun q hq => by cases hq; exact hbw)).mono (by omega), grown_own hG3 hg4 (fun q hq => by cases hq; exact Nat.le_refl _)⟩
  have Hout := Lib.hid hout
  have E4 := Lib.hid e4
  obtain ⟨x1, x2, x3, x4, x5⟩ := hx3
  clear hg3 hG2 hx2 hrd2 hout hG3 hown hi hg4 e4 hrd3
  go_wp2
  rw [← E4.out]
  obtain ⟨z1, z2, _⟩ := hx4
  exact bodyPost_ret (by simp [results, Try.results62, go_sem, z1, z2]) rfl Hout.out
/-- what a draw of a number of people and a claim hands back -/
def OutC (w : World) (e : Ending) (w' : World) : Prop :=
  ∃ (p k : Int) (g cap : Nat) (ms : List (Int × Int)), 1 ≤ p ∧ p ≤ 8 ∧ e = .returned (.tuple #[.int .i64 p, .agg #[.int .i64 k, .slice (some ⟨g, 0, none⟩) ms.length cap]]) ∧ w'.ownsRow w.heap.size TM 2 (.slice (some ⟨g, 0, none⟩) ms.length cap) ms.length (mcells ms) ∧ I64s ms ∧ ms.length ≤ 20 ∧ -1 ≤ k ∧ k ≤ 4 ∧ Below w.heap.size w w'
theorem RdBytes.up {w w1 : World} {a : Value} {n : Nat} (h : RdBytes w w.heap.size a n) (hb : Below w.heap.size w w1) : RdBytes w1 w1.heap.size a n := by
  obtain ⟨ao, cap, hv, hl, hm, hc⟩ := h.below (fun k hk => hb.block k hk)
  refine ⟨ao, cap, hv, hl, hm, fun j hj => ?_⟩
  obtain ⟨b, off, ha, hlt, hz⟩ := hc j hj
  exact ⟨b, off, ha, by have := hb.size; omega, hz⟩
theorem below_row {w w1 w2 : World} {row : Option Nat} (h : Below w.heap.size w w1) (hg : w1.grownBy w2 row) (hr : ∀ k, row = some k → w.heap.size ≤ k) : Below w.heap.size w w2 :=
  h.grown hg h.size hr
/-- what a draw of a number of people, a claim and a world hands back -/
def OutCX (w : World) (e : Ending) (w' : World) : Prop :=
  ∃ (p k : Int) (g cap : Nat) (ms : List (Int × Int)) (x : Int), 1 ≤ p ∧ p ≤ 4 ∧ e = .returned (.tuple #[.int .i64 p, .agg #[.int .i64 k, .slice (some ⟨g, 0, none⟩) ms.length cap], .int .i64 x]) ∧ w'.ownsRow w.heap.size TM 2 (.slice (some ⟨g, 0, none⟩) ms.length cap) ms.length (mcells ms) ∧ I64s ms ∧ ms.length ≤ 20 ∧ -1 ≤ k ∧ k ≤ 4 ∧ 0 ≤ x ∧ x ≤ 100 ∧ Below w.heap.size w w'
end Go.Proofs.Ytobbbmcppmohoaa

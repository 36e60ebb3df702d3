/- The reference model's draw of two people and a kind. -/
import Derived.Test.YtpccldbcmanhdaaDrawC
namespace Go.Proofs.Ytpccldbcmanhdaa
open Go.RowKit Go.Joins
/-- what a draw of a number of people, two people and a kind hands back -/
def OutK (w : World) (e : Ending) (w' : World) : Prop :=
  ∃ (p k l : Int) (t : Bool), 1 ≤ p ∧ p ≤ 8 ∧ 0 ≤ k ∧ k ≤ 8 ∧ -5 ≤ l ∧ l ≤ 3 ∧ e = .returned (.tuple #[.int .i64 p, .int .i64 k, .int .i64 l, .bool t]) ∧ Below w.heap.size w w'
set_option maxRecDepth 100000 in
set_option maxHeartbeats 2000000 in
theorem drawKindClaim (a : Value) (n : Nat) (w : World) (hr : RdBytes w w.heap.size a n) :
    Calls Try.prog 38 #[a] w (OutK w) := by
  go_enter Try.func38, Try.ntmps38
  go_wp2_with fail
  refine (l20Open _ _ _ hr).mono ?_
  rintro e w1 ⟨b, rfl, hb, hrd, hbel⟩
  have hbw := hrd.lt
  go_wp2_with fail
  refine (pick 4 b 0 _ hrd (by omega) (by omega) (by omega)).mono ?_
  rintro e w2 ⟨x, hx0, hx1, rfl, hrd2, hg2⟩
  have hP1 : 1 ≤ 1 + x := by omega
  have hP4 : 1 + x ≤ 4 := by omega
  clear hx0 hx1
  go_wp2_with fail
  generalize 1 + x = p at *
  refine (pick 40 b (0 + 1) _ hrd2 (by omega) (by omega) (by omega)).mono ?_
  rintro e w3 ⟨y1, hy0, hy1, rfl, hrd3, hg3⟩
  have hG3 := grownBy_trans hg2 hg3
  go_wp2_with fail
  refine (pick p b (0 + 1 + 1) _ hrd3 (by omega) (by omega) (by omega)).mono ?_
  rintro e w4 ⟨y2, hz0, hz1, rfl, hrd4, hg4⟩
  have hG4 := grownBy_trans hG3 hg4
  clear hg2 hg3 hG3 hg4 hrd2 hrd3
  go_wp2_with fail
  refine (pick 40 b (0 + 1 + 1 + 1) _ hrd4 (by omega) (by omega) (by omega)).mono ?_
  rintro e w5 ⟨y3, ha0, ha1, rfl, hrd5, hg5⟩
  have hG5 := grownBy_trans hG4 hg5
  go_wp2_with fail
  refine (pick p b (0 + 1 + 1 + 1 + 1) _ hrd5 (by omega) (by omega) (by omega)).mono ?_
  rintro e w6 ⟨y4, hb0, hb1, rfl, hrd6, hg6⟩
  have hG6 := grownBy_trans hG5 hg6
  clear hG4 hg5 hG5 hg6 hrd4 hrd5
  go_wp2_with fail
  refine (pick 40 b (0 + 1 + 1 + 1 + 1 + 1) _ hrd6 (by omega) (by omega) (by omega)).mono ?_
  rintro e w7 ⟨y5, hc0, hc1, rfl, hrd7, hg7⟩
  have hG7 := grownBy_trans hG6 hg7
  go_wp2_with fail
  refine (pick 2 b (0 + 1 + 1 + 1 + 1 + 1 + 1) _ hrd7 (by omega) (by omega) (by omega)).mono ?_
  rintro e w8 ⟨y6, hd0, hd1, rfl, hrd8, hg8⟩
  have HB := Lib.hid (below_of_grown hbel hb (grownBy_trans hG7 hg8))
  clear hrd hbel hG6 hg7 hG7 hg8 hrd6 hrd7 hrd8
  go_wp2
  exact bodyPost_ret (v := .tuple #[.int .i64 (p + y1 / 39 * 4), .int .i64 (y2 + y3 / 39 * 5), .int .i64 (y4 - y5 / 39 * 5), .bool (y6 == 0)]) (by simp [results, Try.results38, go_sem]) rfl ⟨_, _, _, _, by omega, by omega, by omega, by omega, by omega, by omega, rfl, HB.out⟩
end Go.Proofs.Ytpccldbcmanhdaa

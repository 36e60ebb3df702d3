/- The reference model's draws of a number of people and a term. -/
import Derived.Test.YtcpdcokcckbggaaDrawM
import Derived.Test.YtcpdcokcckbggaaLawsA
namespace Go.Proofs.Ytcpdcokcckbggaa
open Go.RowKit Go.Joins

/-- a number of people and a row of marks; the reader is at most at c -/
def DrewT (b c : Nat) (w : World) (e : Ending) (w' : World) : Prop :=
  ∃ (p : Int) (g n cap : Nat) (ms : List (Int × Int)), 1 ≤ p ∧ p ≤ 8 ∧ e = .returned (.tuple #[.int .i64 p, .slice (some ⟨g, 0, none⟩) n cap]) ∧ ms.length = n ∧ w'.ownsRow w.heap.size TM 2 (.slice (some ⟨g, 0, none⟩) n cap) n (mcells ms) ∧ I64s ms ∧ n ≤ 20 ∧ Rd w' b c ∧ w.grownBy w' (some b)
/-- what a draw of a number of people and a row of marks hands back -/
def OutT (w : World) (e : Ending) (w' : World) : Prop :=
  ∃ (p : Int) (g n cap : Nat) (ms : List (Int × Int)), 1 ≤ p ∧ p ≤ 8 ∧ e = .returned (.tuple #[.int .i64 p, .slice (some ⟨g, 0, none⟩) n cap]) ∧ ms.length = n ∧ w'.ownsRow w.heap.size TM 2 (.slice (some ⟨g, 0, none⟩) n cap) n (mcells ms) ∧ I64s ms ∧ n ≤ 20 ∧ Below w.heap.size w w'

set_option maxRecDepth 100000 in
set_option maxHeartbeats 1000000 in
theorem l20Termed (m : Nat) (b c : Nat) (w : World) (hrd : Rd w b c) (hm : m ≤ 1099511627776) (hc : c ≤ 274877906944) :
    Calls Try.prog 77 #[.pointer (some ⟨b, 0, none⟩), .int .i64 m] w (DrewT b (c + 110) w) := by
  have hbw := hrd.lt
  go_enter Try.func77, Try.ntmps77
  go_wp2_with fail
  refine (pick _ _ _ _ hrd (by omega) (by omega) (by omega)).mono ?_
  rintro e w1 ⟨x, hx0, hx1, rfl, hrd1, hg1⟩
  clear hrd
  go_wp2_with fail
  refine (pick _ _ _ _ hrd1 (by omega) (by omega) (by omega)).mono ?_
  rintro e w2 ⟨y, hy0, hy1, rfl, hrd2, hg2⟩
  have hG2 := grownBy_trans hg1 hg2
  have hs2 := hG2.size
  clear hrd1 hg1 hg2
  generalize hP : (1 + x : Int) = P at *
  have hP1 : 1 ≤ P := by omega
  have hP4 : P ≤ 4 := by omega
  clear hP hx0 hx1
  go_wp2_with fail
  refine (l20Term _ _ _ _ _ hrd2 hP1 hP4 hm (by omega)).mono ?_
  rintro e w3 ⟨g, n, cap, ms, rfl, hlen, hown, hi, hn, hrd3, hg3⟩
  have HG := Lib.hid (grownBy_trans hG2 hg3)
  have Hown := Lib.hid (own_mono hown hs2)
  have Hlen := Lib.hid hlen
  have Hi := Lib.hid hi
  have Hrd := Lib.hid (hrd3.mono (show c + 1 + 1 + 100 ≤ c + 110 by omega))
  clear hrd2 hG2 hg3 hown hlen hi hrd3
  go_wp2
  go_ret2
  exact ⟨_, _, _, _, ms, by omega, by omega, rfl, Hlen.out, Hown.out, Hi.out, hn, Hrd.out, HG.out⟩





end Go.Proofs.Ytcpdcokcckbggaa

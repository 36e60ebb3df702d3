/- Texts of a proof, merged: LawsA, DrawN, DrawC, DrawS, ClaimT. -/
import Derived.Test.YtilgkheefhobgaaDoorMerged6
import Derived.Test.YtilgkheefhobgaaDoorMerged4
import Derived.Test.YtilgkheefhobgaaDoorMerged0
import Derived.Test.YtilgkheefhobgaaDoorDraw
import Derived.WalkKit
import Derived.ProofKit
import Derived.Test.YtilgkheefhobgaaDoorDrawM
import Derived.Test.YtilgkheefhobgaaDoorClaimS
import Derived.Deep.RegionHeld3
import Derived.Deep.Cut
import Derived.OwnWalk
/- The first laws of chapter 1: worlds. Each answers true, whatever the code. No condition. -/
namespace Go.Proofs.YtilgkheefhobgaaDoor
open Go.RowKit

attribute [local irreducible] heads turned tabOf wl

/-- two drawn numbers of which P holds, nothing that was there is changed -/
def Out2 (P : Int → Int → Prop) (w : World) (e : Ending) (w' : World) : Prop :=
  ∃ p x : Int, P p x ∧ e = .returned (.tuple #[.int .i64 p, .int .i64 x]) ∧ Below w.heap.size w w'
theorem below_of_grown {w w1 w' : World} {b : Nat} (h : Below w.heap.size w w1) (hb : w.heap.size ≤ b) (hg : w1.grownBy w' (some b)) : Below w.heap.size w w' :=
  h.grown hg h.size (fun k hk => by cases hk; exact hb)
theorem code_big {n : Nat} (h : ¬ n ≤ 1048576) : (1048576 : Int) < (n : Int) := by omega

set_option maxHeartbeats 400000 in
theorem alive (w : World) : Calls Tryd.prog 9 #[] w fun e w' => e = .returned (.bool true) ∧ w = w' := by
  go_enter Tryd.func9, Tryd.ntmps9
  go_wp2_with fail
  refine (implWorldOk _ _ _).mono ?_
  rintro e w' ⟨rfl, rfl⟩
  rw [show wOk 1 1 = true from by decide]
  go_wp2_with fail
  refine (implWorldOk _ _ _).mono ?_
  rintro e w' ⟨rfl, rfl⟩
  rw [show wOk 1 2 = false from by decide]
  go_wp2
  go_ret
  exact ⟨rfl, rfl⟩



end Go.Proofs.YtilgkheefhobgaaDoor

namespace Go.Proofs.YtilgkheefhobgaaDoor
open Go.RowKit
theorem heads_opp {p : Int} {X N : Nat} (h1 : 1 ≤ p) (h2 : p ≤ 4) (hN : (N : Int) = 2 ^ p.toNat) (hX : X < N) : (heads X : Int) + heads (N - 1 - X) = p := by
  rcases p_cases h1 h2 with rfl | rfl | rfl | rfl
  · have : N = 2 := by simp at hN; omega
    subst this
    exact (by decide +kernel : ∀ X : Nat, X < 2 → (heads X : Int) + heads (2 - 1 - X) = 1) X hX
  · have : N = 4 := by simp at hN; omega
    subst this
    exact (by decide +kernel : ∀ X : Nat, X < 4 → (heads X : Int) + heads (4 - 1 - X) = 2) X hX
  · have : N = 8 := by simp at hN; omega
    subst this
    exact (by decide +kernel : ∀ X : Nat, X < 8 → (heads X : Int) + heads (8 - 1 - X) = 3) X hX
  · have : N = 16 := by simp at hN; omega
    subst this
    exact (by decide +kernel : ∀ X : Nat, X < 16 → (heads X : Int) + heads (16 - 1 - X) = 4) X hX
theorem N_even {p : Int} {N : Nat} (h1 : 1 ≤ p) (h2 : p ≤ 4) (hN : (N : Int) = 2 ^ p.toNat) : N = 2 ∨ N = 4 ∨ N = 8 ∨ N = 16 := by
  rcases p_cases h1 h2 with rfl | rfl | rfl | rfl <;> simp at hN <;> omega
theorem wOk_N {p x : Int} {N : Nat} (h : wOk p x = true) (hN : (N : Int) = 2 ^ p.toNat) : 0 ≤ x ∧ x < N := by
  have := wOk_iff.1 h; omega
theorem wOk_of {p x : Int} {N : Nat} (h1 : 1 ≤ p) (h2 : p ≤ 4) (hN : (N : Int) = 2 ^ p.toNat) (h3 : 0 ≤ x) (h4 : x < N) : wOk p x = true :=
  wOk_iff.2 ⟨h1, h2, h3, by omega⟩
end Go.Proofs.YtilgkheefhobgaaDoor
/- The reference model's draws of a number of people and a term. -/
namespace Go.Proofs.YtilgkheefhobgaaDoor
open Go.RowKit Go.Joins

/-- a number of people and a row of marks; the reader is at most at c -/
def DrewT (b c : Nat) (w : World) (e : Ending) (w' : World) : Prop :=
  ∃ (p : Int) (g n cap : Nat) (ms : List (Int × Int)), 1 ≤ p ∧ p ≤ 8 ∧ e = .returned (.tuple #[.int .i64 p, .slice (some ⟨g, 0, none⟩) n cap]) ∧ ms.length = n ∧ w'.ownsRow w.heap.size TM 2 (.slice (some ⟨g, 0, none⟩) n cap) n (mcells ms) ∧ I64s ms ∧ n ≤ 20 ∧ Rd w' b c ∧ w.grownBy w' (some b)
/-- what a draw of a number of people and a row of marks hands back -/
def OutT (w : World) (e : Ending) (w' : World) : Prop :=
  ∃ (p : Int) (g n cap : Nat) (ms : List (Int × Int)), 1 ≤ p ∧ p ≤ 8 ∧ e = .returned (.tuple #[.int .i64 p, .slice (some ⟨g, 0, none⟩) n cap]) ∧ ms.length = n ∧ w'.ownsRow w.heap.size TM 2 (.slice (some ⟨g, 0, none⟩) n cap) n (mcells ms) ∧ I64s ms ∧ n ≤ 20 ∧ Below w.heap.size w w'






end Go.Proofs.YtilgkheefhobgaaDoor
/- The reference model's draws of claims and stories. -/
namespace Go.Proofs.YtilgkheefhobgaaDoor
open Go.RowKit Go.Joins
/-- a drawn claim, what it says in a row of the call's own -/
def DrewC (b c : Nat) (w : World) (e : Ending) (w' : World) : Prop :=
  ∃ (k : Int) (g cap : Nat) (ms : List (Int × Int)), e = .returned (.agg #[.int .i64 k, .slice (some ⟨g, 0, none⟩) ms.length cap]) ∧ w'.ownsRow w.heap.size TM 2 (.slice (some ⟨g, 0, none⟩) ms.length cap) ms.length (mcells ms) ∧ I64s ms ∧ ms.length ≤ 20 ∧ -1 ≤ k ∧ k ≤ 4 ∧ Rd w' b c ∧ w.grownBy w' (some b)
def v4ne (v : Value) (g : Nat) : Prop := v.ownBlock ≠ some g
/-- the claim laid in the result's variable, as it is handed back -/
theorem claim_out {w w2 w5 : World} {b c' g cap : Nat} {k : Int} {a0 b0 : Value} {ms : List (Int × Int)} (hbw : b < w.heap.size) (hsz : w.heap.size < w2.heap.size) (hx : Box w5 w.heap.size a0 b0) (hown : w5.ownsRow w2.heap.size TM 2 (.slice (some ⟨g, 0, none⟩) ms.length cap) ms.length (mcells ms))
    (hi : I64s ms) (hn : ms.length ≤ 20) (h1 : -1 ≤ k) (h4 : k ≤ 4) (hrd : Rd w5 b c') (hG : w.grownBy w5 (some b)) :
    ∃ w6, w6 = (w5.setCell ⟨w.heap.size, 0, none⟩ (.int .i64 k)).setCell ⟨w.heap.size, 1, none⟩ (.slice (some ⟨g, 0, none⟩) ms.length cap) ∧ Box w6 w.heap.size (.int .i64 k) (.slice (some ⟨g, 0, none⟩) ms.length cap) ∧
      DrewC b c' w (.returned (.agg #[.int .i64 k, .slice (some ⟨g, 0, none⟩) ms.length cap])) w6 := by
  obtain ⟨w6, e6, h6, g6⟩ := hx.set (.int .i64 k) (.slice (some ⟨g, 0, none⟩) ms.length cap)
  refine ⟨w6, e6, h6, k, g, cap, ms, rfl, own_mono (own_row hown g6 hsz) (by omega), hi, hn, h1, h4, hrd.grown g6 (fun q hq => by cases hq; exact hbw), ?_⟩
  exact grown_own hG g6 (fun q hq => by cases hq; exact Nat.le_refl _)
set_option maxRecDepth 100000 in
set_option maxHeartbeats 2000000 in
theorem l20Claim (p : Int) (n : Nat) (b c : Nat) (w : World) (hrd : Rd w b c) (hp1 : 1 ≤ p) (hp4 : p ≤ 4) (hn : n ≤ 1000000) (hc : c ≤ 274877906944) :
    Calls Tryd.prog 63 #[.pointer (some ⟨b, 0, none⟩), .int .i64 p, .int .i64 n] w (DrewC b (c + 103) w) := by
  have hbw := hrd.lt
  go_enter Tryd.func63, Tryd.ntmps63
  go_upto_region 1 with fail
  obtain ⟨w1, hw1, hx1, hbw1, hsz⟩ := Box.new w (.int .i64 0) (.slice none 0 0) TC
  have hrd1 : Rd w1 b c := by rw [hw1]; exact hrd.alloc _
  have hG1 : w.grownBy w1 (some b) := by rw [hw1]; exact only_alloc (World.grownBy.refl _ _) _
  rw [← hw1]
  clear hw1 hrd
  go_wp2_with fail
  refine (pick p b c _ hrd1 hp1 (by omega) (by omega)).mono ?_
  rintro e w2 ⟨x, hx0, hxp, rfl, hrd2, hg2⟩
  have hG2 := grownBy_trans hG1 hg2
  have hx2 := hx1.grown hg2 (by simp; omega)
  clear hg2 hG1 hx1 hrd1 hbw1
  have hsz2 := hx2.2.2.2.2
  go_wp2_with fail
  rw [show ((n : Int) * 2) = ((n * 2 : Nat) : Int) by simp]
  refine (l20Term p (n * 2) b (c + 1) _ hrd2 hp1 hp4 (by omega) (by omega)).mono ?_
  rintro e w3 ⟨g, nn, cap, ms, rfl, hlen, hown, hi, hn20, hrd3, hg3⟩
  subst hlen
  have hG3 := grownBy_trans hG2 hg3
  have hx3 := hx2.grown hg3 (by simp; omega)
  have hsz3 := hx3.2.2.2.2
  have hs23 := hg3.size
  have Hi := Lib.hid hi
  clear hg3 hG2 hx2 hrd2 hi
  go_upto_region 2 with fail
  obtain ⟨w4, hw4, hy4, hb4, hsz4⟩ := Box.new w3 (.int .i64 x) (.slice (some ⟨g, 0, none⟩) ms.length cap) TC
  have hrd4 : Rd w4 b (c + 1 + 100) := by rw [hw4]; exact hrd3.alloc _
  have hG4 : w.grownBy w4 (some b) := by rw [hw4]; exact only_alloc hG3 _
  have hown4 : w4.ownsRow w2.heap.size TM 2 (.slice (some ⟨g, 0, none⟩) ms.length cap) ms.length (mcells ms) := by rw [hw4]; exact hown.alloc _
  have hx4 : Box w4 w.heap.size (.int .i64 0) (.slice none 0 0) := hx3.below hb4
  have hne4 : v4ne (.slice (some ⟨g, 0, none⟩) ms.length cap) w3.heap.size := by
    intro e
    have := (hown.lt w3.heap.size e).2
    omega
  rw [← hw4]
  clear hw4 hrd3 hG3 hx3 hb4 hown
  go_wp2_with fail
  refine (odd n b (c + 1 + 100) _ hrd4 (by omega) (by omega)).mono ?_
  rintro e w5 ⟨o, rfl, hrd5, hg5⟩
  have hG5 := grownBy_trans hG4 hg5
  have hx5 := hx4.grown hg5 (by simp; omega)
  have hy5 := hy4.grown hg5 (by simp; omega)
  have hown5 := own_row hown4 hg5 (by omega)
  clear hg5 hG4 hrd4 hown4 hx4 hy4
  cases o with
  | false =>
    have Hout := Lib.hid (claim_out (c' := c + 103) hbw hsz2 hx5 hown5 Hi.out hn20 (show -1 ≤ x by omega) (show x ≤ 4 by omega) (hrd5.mono (show c + 1 + 100 + 1 ≤ c + 103 by omega)) hG5)
    obtain ⟨x1, x2, x3, x4, x5⟩ := hx5
    obtain ⟨y1, y2, y3, y4, y5⟩ := hy5
    clear hrd5 hG5 hown5
    go_wp2
    obtain ⟨w6, hw6, hx6, hout⟩ := Hout.out
    rw [← hw6]
    obtain ⟨z1, z2, _⟩ := hx6
    exact bodyPost_ret (v := .agg #[.int .i64 x, .slice (some ⟨g, 0, none⟩) ms.length cap]) (by simp [results, Tryd.results63, go_sem, z1, z2]) rfl hout
  | true =>
    obtain ⟨w6, hw6, ha6, hb6, hsz6⟩ := Box.new w5 (.int .i64 (-1)) (.int .i64 4) 3
    have hrd6 : Rd w6 b (c + 1 + 100 + 1) := by rw [hw6]; exact hrd5.alloc _
    have hG6 : w.grownBy w6 (some b) := by rw [hw6]; exact only_alloc hG5 _
    have hown6 : w6.ownsRow w2.heap.size TM 2 (.slice (some ⟨g, 0, none⟩) ms.length cap) ms.length (mcells ms) := by rw [hw6]; exact hown5.alloc _
    have hx6 := hx5.below hb6
    have hy6 := hy5.below hb6
    have hsz5 := hy5.2.2.2.2
    clear hrd5 hG5 hown5 hx5 hy5 hb6
    go_wp2_with fail
    rw [← hw6]
    clear hw6
    refine (pick 2 b (c + 1 + 100 + 1) _ hrd6 (by omega) (by omega) (by omega)).mono ?_
    rintro e w7 ⟨y, hy0, hy1, rfl, hrd7, hg7⟩
    have hG7 := grownBy_trans hG6 hg7
    have hx7 := hx6.grown hg7 (by simp; omega)
    have hy7 := hy6.grown hg7 (by simp; omega)
    have ha7 := ha6.grown hg7 (by simp; omega)
    have hown7 := own_row hown6 hg7 (by omega)
    clear hg7 hG6 hrd6 hown6 hx6 hy6 ha6
    obtain ⟨K, hK1, hK4, hKy⟩ : ∃ K : Int, -1 ≤ K ∧ K ≤ 4 ∧ ((y = 0 ∧ K = -1) ∨ (y = 1 ∧ K = 4)) := by
      by_cases h : y = 0
      · exact ⟨-1, by omega, by omega, .inl ⟨h, rfl⟩⟩
      · exact ⟨4, by omega, by omega, .inr ⟨by omega, rfl⟩⟩
    obtain ⟨w8, e8, hy8, hg8⟩ := hy7.set0 (.int .i64 K)
    have hG8 : w.grownBy w8 (some b) := grown_own hG7 hg8 (fun q hq => by cases hq; omega)
    have hx8 := hx7.grown hg8 (by simp; omega)
    have hown8 : w8.ownsRow w2.heap.size TM 2 (.slice (some ⟨g, 0, none⟩) ms.length cap) ms.length (mcells ms) := hown7.kept hg8 (.inr hne4)
    have hrd8 : Rd w8 b (c + 1 + 100 + 1 + 1) := hrd7.grown hg8 (fun q hq => by cases hq; omega)
    have Hout := Lib.hid (claim_out (c' := c + 103) hbw hsz2 hx8 hown8 Hi.out hn20 hK1 hK4 (hrd8.mono (show c + 1 + 100 + 1 + 1 ≤ c + 103 by omega)) hG8)
    obtain ⟨x1, x2, x3, x4, x5⟩ := hx8
    obtain ⟨u1, u2, u3, u4, u5⟩ := hy8
    obtain ⟨y1, y2, y3, y4, y5⟩ := hy7
    obtain ⟨a1, a2, a3, a4, a5⟩ := ha7
    have E8 := Lib.hid e8
    clear hrd7 hrd8 hG7 hG8 hown7 hown8 hx7 hg8 e8 hy0 hy1 hK1 hK4
    rcases hKy with ⟨rfl, rfl⟩ | ⟨rfl, rfl⟩
    all_goals
      go_upto_region 4 with fail
      rw [← E8.out]
      clear y1 y2 y3 y4 y5
      go_wp2
      obtain ⟨w9, hw9, hx9, hout⟩ := Hout.out
      rw [← hw9]
      obtain ⟨z1, z2, _⟩ := hx9
      exact bodyPost_ret (by simp [results, Tryd.results63, go_sem, z1, z2]) rfl hout
/-- what a draw of a number of people and a claim hands back -/
def OutC (w : World) (e : Ending) (w' : World) : Prop :=
  ∃ (p k : Int) (g cap : Nat) (ms : List (Int × Int)), 1 ≤ p ∧ p ≤ 8 ∧ e = .returned (.tuple #[.int .i64 p, .agg #[.int .i64 k, .slice (some ⟨g, 0, none⟩) ms.length cap]]) ∧ w'.ownsRow w.heap.size TM 2 (.slice (some ⟨g, 0, none⟩) ms.length cap) ms.length (mcells ms) ∧ I64s ms ∧ ms.length ≤ 20 ∧ -1 ≤ k ∧ k ≤ 4 ∧ Below w.heap.size w w'
theorem RdBytes.up {w w1 : World} {a : Value} {n : Nat} (h : RdBytes w w.heap.size a n) (hb : Below w.heap.size w w1) : RdBytes w1 w1.heap.size a n := by
  obtain ⟨ao, cap, hv, hl, hm, hc⟩ := h.below (fun k hk => hb.block k hk)
  refine ⟨ao, cap, hv, hl, hm, fun j hj => ?_⟩
  obtain ⟨b, off, ha, hlt, hz⟩ := hc j hj
  exact ⟨b, off, ha, by have := hb.size; omega, hz⟩
theorem below_row {w w1 w2 : World} {row : Option Nat} (h : Below w.heap.size w w1) (hg : w1.grownBy w2 row) (hr : ∀ k, row = some k → w.heap.size ≤ k) : Below w.heap.size w w2 :=
  h.grown hg h.size hr
/-- what a draw of a number of people, a claim and a world hands back -/
def OutCX (w : World) (e : Ending) (w' : World) : Prop :=
  ∃ (p k : Int) (g cap : Nat) (ms : List (Int × Int)) (x : Int), 1 ≤ p ∧ p ≤ 4 ∧ e = .returned (.tuple #[.int .i64 p, .agg #[.int .i64 k, .slice (some ⟨g, 0, none⟩) ms.length cap], .int .i64 x]) ∧ w'.ownsRow w.heap.size TM 2 (.slice (some ⟨g, 0, none⟩) ms.length cap) ms.length (mcells ms) ∧ I64s ms ∧ ms.length ≤ 20 ∧ -1 ≤ k ∧ k ≤ 4 ∧ 0 ≤ x ∧ x ≤ 100 ∧ Below w.heap.size w w'
end Go.Proofs.YtilgkheefhobgaaDoor
/- The reference model's draws of stories. -/
namespace Go.Proofs.YtilgkheefhobgaaDoor
open Go.RowKit Go.Joins
def QSmall (qs : List QC) : Prop := ∀ q ∈ qs, q.2.2.length ≤ 20 ∧ -1 ≤ q.2.1 ∧ q.2.1 ≤ 4
theorem QSmall.snoc {qs : List QC} {q : QC} (h : QSmall qs) (hq : q.2.2.length ≤ 20 ∧ -1 ≤ q.2.1 ∧ q.2.1 ≤ 4) : QSmall (qs ++ [q]) := by
  intro r hr
  rcases List.mem_append.1 hr with hr | hr
  · exact h r hr
  · simp at hr; subst hr; exact hq
/-- one claim more: how a round ends -/
theorem claim_added {w w4 w5 : World} {b : Nat} {v v' u : Value} {qs : List QC} {k : Int} {ms : List (Int × Int)} {c : Nat} {o : Obj} (hb : b < w.heap.size) (hs : StoryIn w4 w.heap.size w.heap.size v qs) (hq : QSmall qs)
    (hu : w4.ownsRow w.heap.size TM 2 u ms.length (mcells ms)) (hi : I64s ms) (hn : ms.length ≤ 20) (hk1 : -1 ≤ k) (hk4 : k ≤ 4) (hG : w.grownBy w4 (some b)) (hr : Rd w4 b c)
    (hown : w5.ownsRow w.heap.size TC 2 v' (qs.length + 1) (ccells qs ++ ccells [(u, (k, ms))])) (hg : (w4.alloc o).grownBy w5 v.ownBlock) :
    StoryIn w5 w.heap.size w.heap.size v' (qs ++ [(u, (k, ms))]) ∧ QSmall (qs ++ [(u, (k, ms))]) ∧ w.grownBy w5 (some b) ∧ Rd w5 b c := by
  refine ⟨(hs.alloc o).push ⟨hu.alloc o, hi, show I64 k from I64_small (by omega) (by omega)⟩ hown hg, hq.snoc ⟨hn, hk1, hk4⟩, ?_, ?_⟩
  · exact grown_own (only_alloc hG _) hg fun q hq => (hs.1.lt q hq).1
  · exact (hr.alloc _).grown hg (own_row_block hs.1 hb)
/-- a number of people, and a drawn story -/
def DrewPS (b c : Nat) (w : World) (e : Ending) (w' : World) : Prop :=
  ∃ (p : Int) (v : Value) (qs : List QC), 1 ≤ p ∧ p ≤ 4 ∧ e = .returned (.tuple #[.int .i64 p, v]) ∧ StoryIn w' w.heap.size w.heap.size v qs ∧ QSmall qs ∧ qs.length ≤ 7 ∧ Rd w' b c ∧ w.grownBy w' (some b)
set_option maxRecDepth 100000 in
set_option maxHeartbeats 4000000 in
theorem l20Story (n : Nat) (b c : Nat) (w : World) (hrd : Rd w b c) (hn : n ≤ 1000) (hc : c ≤ 1000000) :
    Calls Tryd.prog 50 #[.pointer (some ⟨b, 0, none⟩), .int .i64 n] w (DrewPS b (c + 500) w) := by
  obtain ⟨ic, hci, hcz0, hcz1, hcz2⟩ := info_parts Tryd.infoC
  have Ci := Lib.hid hci; clear hci
  have Cz0 := Lib.hid hcz0; clear hcz0
  have Cz1 := Lib.hid hcz1; clear hcz1
  have Cz2 := Lib.hid hcz2; clear hcz2
  have hbw := hrd.lt
  go_enter Tryd.func50, Tryd.ntmps50
  go_wp2_with fail
  refine (pick 4 b c _ hrd (by omega) (by omega) (by omega)).mono ?_
  rintro e w1 ⟨x, hx0, hxp, rfl, hrd1, hg1⟩
  have hP1 : 1 ≤ 1 + x := by omega
  have hP4 : 1 + x ≤ 4 := by omega
  have hs1 := hg1.size
  have hown1 : (w1.alloc (.cells #[] TC)).ownsRow w.heap.size TC 2 (.slice (some ⟨w1.heap.size, 0, none⟩) 0 0) 0 [] := World.ownsRow_made _ _ 0 hs1 (by unfold maxLen; omega) rfl
  have hrd1' := hrd1.alloc (.cells #[] TC)
  have hG1 := only_alloc hg1 (.cells #[] TC)
  clear hrd hrd1 hg1 hx0 hxp
  go_wp2_with fail
  generalize 1 + x = p at *
  refine (pick 5 b (c + 1) _ hrd1' (by omega) (by omega) (by omega)).mono ?_
  rintro e w2 ⟨y, hy0, hy5, rfl, hrd2, hg2⟩
  have hG2 := grownBy_trans hG1 hg2
  have hown2 := own_row hown1 hg2 hbw
  obtain ⟨Y, rfl⟩ := Int.eq_ofNat_of_zero_le hy0
  clear hg2 hG1 hown1 hrd1'
  go_wp2_with fail
  go_loopw [7, 8] (fun v i wr => ∃ (j : Nat) (qs : List QC), j + qs.length ≤ 4 ∧ i = .int .i64 j ∧ StoryIn wr w.heap.size w.heap.size v qs ∧ QSmall qs ∧ Rd wr b (c + 2 + 103 * qs.length) ∧ w.grownBy wr (some b))
    (fun _ i _ => (intOf i).toNat)
  case atStart => exact ⟨Y, [], by simp; omega, rfl, ⟨hown2, by simp⟩, fun q hq => by simp at hq, hrd2, hG2⟩
  case round =>
    clear hown2 hrd2 hG2 hy0 hy5
    obtain ⟨j, qs, hj, rfl, hst, hqs, hrk, hGk⟩ := hrel
    by_cases hlt : 0 < j
    · obtain ⟨j, rfl⟩ : ∃ i, j = i + 1 := ⟨j - 1, by omega⟩
      go_wp2_with fail
      rw [show ((n : Int) * 3) = ((n * 3 : Nat) : Int) by simp]
      refine (l20Claim p (n * 3) b _ _ hrk hP1 hP4 (by omega) (by omega)).mono ?_
      rintro e w4 ⟨k, g, cap, ms, rfl, hown, hi, hn20, hk1, hk4, hrd4, hg4⟩
      have hst4 := hst.row hg4 hbw hbw
      have hG4 := grownBy_trans hGk hg4
      have hsz4 := hG4.size
      have hu := own_mono hown hGk.size
      have Hall := Lib.hid (fun v' w5 h1 h2 => claim_added (w5 := w5) (v' := v') (o := .cells #[.int .i64 k, .slice (some ⟨g, 0, none⟩) ms.length cap] TC) hbw hst4 hqs hu hi hn20 hk1 hk4 hG4 hrd4 h1 h2)
      have Hst4 := Lib.hid hst4.1
      clear hrk hGk hg4 hst hown hi hst4 hG4 hrd4 hu
      go_wp2_with (at_builtin; refine wpList_append_own _ rfl _ _ 23 rfl w.heap.size TC ic (.agg #[.int .i64 0, .slice none 0 0]) 2 32 Tryd.underlying23 Ci.out Cz0.out Cz1.out Cz2.out rfl (by decide) _ _ _ rfl (Hst4.out.alloc _) ⟨w4.heap.size, 0, none⟩ 1 1 (ccells [(.slice (some ⟨g, 0, none⟩) ms.length cap, (k, ms))]) rfl rfl (newsC _ _ rfl _ _ _ _) (ccells_one (by simp [Value.oneCell'])) (by unfold maxLen; omega) (by omega) (by simp; omega) ?_)
      intro v' w5 hown' hgrow _
      have Hout := Lib.hid (Hall.out v' w5 hown' hgrow)
      clear hown' hgrow Hall Hst4
      go_wp2
      go_roundw
      case rel => exact ⟨j, _, by simp; omega, by go_num, Hout.out.1, Hout.out.2.1, Hout.out.2.2.2.mono (by simp; omega), Hout.out.2.2.1⟩
      case measure => simp [intOf]
    · obtain rfl : j = 0 := by omega
      have hrk' := hrk.mono (show c + 2 + 103 * qs.length ≤ c + 414 by omega)
      have hq4 : qs.length ≤ 4 := by omega
      clear hrk hj hlt
      rw [show ((0 : Nat) : Int) = 0 from rfl]
      go_wp2_with fail
      refine (odd n b (c + 414) _ hrk' (by omega) (by omega)).mono ?_
      rintro e w6 ⟨o, rfl, hrd6, hg6⟩
      have hG6 := grownBy_trans hGk hg6
      have hst6 := hst.row hg6 hbw hbw
      clear hg6 hGk hst hrk'
      cases o with
      | false =>
        have Hout := Lib.hid (show StoryIn w6 w.heap.size w.heap.size u7 qs ∧ Rd w6 b (c + 414 + 1) ∧ w.grownBy w6 (some b) from ⟨hst6, hrd6, hG6⟩)
        clear hst6 hrd6 hG6
        go_wp2
        go_ret2
        exact ⟨p, _, qs, hP1, hP4, rfl, Hout.out.1, hqs, by omega, Hout.out.2.1.mono (by omega), Hout.out.2.2⟩
      | true =>
        go_wp2_with fail
        go_loopw [7] (fun v wr => ∃ qs : List QC, qs.length ≤ 7 ∧ (∃ ao cp, v = .slice ao qs.length cp) ∧ StoryIn wr w.heap.size w.heap.size v qs ∧ QSmall qs ∧ Rd wr b (c + 415) ∧ w.grownBy wr (some b))
          (fun v _ => 7 - lenV v)
        case atStart => exact ⟨qs, by omega, own_len hst6.1, hst6, hqs, hrd6, hG6⟩
        case round =>
          clear hst6 hqs hrd6 hG6 hq4
          obtain ⟨qs, hq7, ⟨ao, cp, rfl⟩, hst, hqs, hrk, hGk⟩ := hrel
          by_cases hlt : qs.length < 7
          · have hlt' : (qs.length : Int) < 7 := by omega
            have hcap : qs.length ≤ cp := by
              rcases hst.1.2 with ⟨h0, hz⟩ | ⟨g, cap, cur, h0, _, _, h1, _⟩
              · injection h0 with _ h2 h3; omega
              · injection h0 with _ _ h3; omega
            have hu : (wr.alloc (.cells #[.int .i64 0, .int .i64 0] TM)).ownsRow w.heap.size TM 2 (.slice (some ⟨wr.heap.size, 0, none⟩) 1 1) 1 (mcells [(0, 0)]) := own_new wr w.heap.size 0 0 hGk.size
            have hszr := hGk.size
            have Hall := Lib.hid (fun v' w5 h1 h2 => claim_added (w5 := w5) (v' := v') (u := .slice (some ⟨wr.heap.size, 0, none⟩) 1 1) (k := 0) (ms := [(0, 0)]) (o := .cells #[.int .i64 0, .slice (some ⟨wr.heap.size, 0, none⟩) 1 1] TC) hbw (hst.alloc (.cells #[.int .i64 0, .int .i64 0] TM)) hqs hu (I64s_one (I64_small (by omega) (by omega)) (I64_small (by omega) (by omega))) (by simp) (by omega) (by omega) (only_alloc hGk _) (hrk.alloc _) h1 h2)
            have Hst := Lib.hid hst.1
            clear hst hqs hu hrk hGk
            go_wp2_with (at_builtin; refine wpList_append_own _ rfl _ _ 23 rfl w.heap.size TC ic (.agg #[.int .i64 0, .slice none 0 0]) 2 32 Tryd.underlying23 Ci.out Cz0.out Cz1.out Cz2.out rfl (by decide) _ _ _ rfl ((Hst.out.alloc _).alloc _) ⟨wr.heap.size + 1, 0, none⟩ 1 1 (ccells [(.slice (some ⟨wr.heap.size, 0, none⟩) 1 1, (0, [(0, 0)]))]) rfl rfl (newsC _ _ (by simp) _ _ _ _) (ccells_one (by simp [Value.oneCell'])) (by unfold maxLen; omega) (by omega) (by simp; omega) ?_)
            intro v' w5 hown' hgrow _
            have Hout := Lib.hid (Hall.out v' w5 hown' hgrow)
            obtain ⟨ao', cp', rfl⟩ := own_len hown'
            clear hown' hgrow Hall Hst
            go_wp2
            go_roundw
            case rel => exact ⟨_, by simp; omega, ⟨ao', cp', by simp⟩, by simpa using Hout.out.1, Hout.out.2.1, Hout.out.2.2.2, Hout.out.2.2.1⟩
            case measure => simp [lenV]; omega
          · have hlt' : ¬ (qs.length : Int) < 7 := by omega
            have Hout := Lib.hid (show StoryIn wr w.heap.size w.heap.size (.slice ao qs.length cp) qs ∧ QSmall qs ∧ Rd wr b (c + 415) ∧ w.grownBy wr (some b) from ⟨hst, hqs, hrk, hGk⟩)
            clear hst hqs hrk hGk
            go_wp2
            go_ret2
            exact ⟨p, _, qs, hP1, hP4, rfl, Hout.out.1, Hout.out.2.1, by omega, Hout.out.2.2.1.mono (by omega), Hout.out.2.2.2⟩
/-- what a draw of a number of people and a story hands back -/
def OutS (w : World) (e : Ending) (w' : World) : Prop :=
  ∃ (p : Int) (v : Value) (qs : List QC), -4 ≤ p ∧ p ≤ 8 ∧ e = .returned (.tuple #[.int .i64 p, v]) ∧ StoryIn w' w.heap.size w.heap.size v qs ∧ QSmall qs ∧ qs.length ≤ 7 ∧ Below w.heap.size w w'
end Go.Proofs.YtilgkheefhobgaaDoor
/- Contracts of the reference's claims and stories: terms of claims, stories and their tables. -/
namespace Go.Proofs.YtilgkheefhobgaaDoor
open Go.RowKit Go.Joins
attribute [local irreducible] holds tabN tabV holdsV sameV followsV alwaysV matterV claimOk mayT mayV ctabV ctabN storyV storyOk storyN storyT ctermV ctermL
theorem RdMarks.cells {w : World} {B b off n cap : Nat} {ms : List (Int × Int)} (h : RdMarks w B (.slice (some ⟨b, off, none⟩) n cap) ms) : ∀ (j : Nat) (u : Value), (mcells ms)[j]? = some u → w.cell? ((⟨b, off, none⟩ : Addr).add j) = some u := by
  intro j u hj
  obtain ⟨ao, cap', hv, hl, _, _, hc⟩ := h
  cases hv
  have hlt : j < ms.length * 2 := by
    rw [← mcells_length]
    exact (List.getElem?_eq_some_iff.1 hj).1
  obtain ⟨b', off', he, _, h1, h2⟩ := hc (j / 2) (by omega)
  cases he
  obtain ⟨g1, g2⟩ := mcells_get ms (j / 2) (by omega)
  have e : (⟨b, off, none⟩ : Addr).add j = ⟨b, off + j, none⟩ := by simp [Addr.add]
  rw [e]
  rcases Nat.mod_two_eq_zero_or_one j with hm | hm
  · have ej : j = j / 2 * 2 := by omega
    rw [ej] at hj ⊢
    rw [g1] at hj
    cases hj
    exact h1
  · have ej : j = j / 2 * 2 + 1 := by omega
    rw [ej] at hj ⊢
    rw [g2] at hj
    cases hj
    exact h2
/-- what a call hands back that returns marks in memory of its own -/
def RowOut (ms : List (Int × Int)) (w : World) (e : Ending) (w' : World) : Prop := ∃ v, e = .returned v ∧ w'.ownsRow w.heap.size TM 2 v ms.length (mcells ms) ∧ Below w.heap.size w w'
theorem ctermV_no {p : Int} {c : Cl} (h : claimOk p c = false) : ctermV p c = [] := by unfold ctermV; rw [h]; rfl
theorem ctermV_yes {p : Int} {c : Cl} (h : claimOk p c = true) : ctermV p c = ctermL c := by unfold ctermV; rw [h]; rfl
theorem ctermL_cells (k : Int) (ms : List (Int × Int)) : (ctermL (k, ms)).length = 1 + ms.length + 1 ∧ mcells (ctermL (k, ms)) = mcells [(0, k)] ++ mcells ms ++ mcells [(5, 0)] := by
  unfold ctermL
  refine ⟨by simp; omega, ?_⟩
  rw [mcells_append]; rfl
/-! ### stories -/
theorem all_take_succ (p : Int) (qs : List QC) (j : Nat) (hj : j < qs.length) : ((qs.take (j + 1)).all fun q => claimOk p q.2) = (((qs.take j).all fun q => claimOk p q.2) && claimOk p (qs.getD j qc0).2) := by
  have e : qs.getD j qc0 = qs[j] := by simp [List.getD, hj]
  rw [List.take_succ_eq_append_getElem hj, List.all_append, e]
  simp
theorem storyOk_no {p : Int} {qs : List QC} {j : Nat} (hj : j < qs.length) (h : claimOk p (qs.getD j qc0).2 = false) : storyOk p (qs.map (·.2)) = false := by
  have e : qs.getD j qc0 = qs[j] := by simp [List.getD, hj]
  rw [e] at h
  cases hs : storyOk p (qs.map (·.2)) with
  | false => rfl
  | true =>
    have := (storyOk_iff.1 hs).1 qs[j].2 (List.mem_map.2 ⟨_, List.getElem_mem hj, rfl⟩)
    rw [h] at this; cases this
theorem storyOk_all {p : Int} {qs : List QC} (h : ((qs.take qs.length).all fun q => claimOk p q.2) = true) : storyOk p (qs.map (·.2)) = (pOk p && decide (qs.length ≤ 6)) := by
  rw [List.take_length] at h
  unfold storyOk
  rw [List.all_map, show (qs.all (claimOk p ∘ fun x => x.2)) = true from h, List.length_map]
  rfl
set_option maxRecDepth 100000 in
set_option maxHeartbeats 1000000 in
theorem specStoryOk (p : Int) (qs : List QC) (B : Nat) (v : Value) (w : World) (hr : RdStory w B v qs) (hB : B ≤ w.heap.size) :
    Calls Tryd.prog 33 #[.int .i64 p, v] w fun e w' => e = .returned (.bool (storyOk p (qs.map (·.2)))) ∧ Below w.heap.size w w' := by
  have Hr := Lib.hid hr
  obtain ⟨ao, cap, rfl, hal, ham, _, hac0⟩ := hr
  have hac := Lib.hid hac0; clear hac0
  unfold maxLen at ham
  obtain ⟨wo, rfl⟩ : ∃ wo : World, wo = w := ⟨_, rfl⟩
  go_enter Tryd.func33, Tryd.ntmps33
  go_wp2
  go_loopw [5] (fun i wr => ∃ j : Nat, j ≤ qs.length ∧ i = .int .i64 j ∧ Hid (((qs.take j).all fun q => claimOk p q.2) = true) ∧ Below wo.heap.size wo wr) (fun i _ => qs.length - (intOf i).toNat)
  case atStart => exact ⟨0, Nat.zero_le _, rfl, rfl, Below.refl _ _⟩
  case round =>
    obtain ⟨j, hj, rfl, hall, hbr⟩ := hrel
    by_cases hlt : j < qs.length
    · obtain ⟨b, off, rfl, hb, hc1, hc2⟩ := hac.out j hlt
      rw [← hbr.cell (p := ⟨b, _, none⟩) (show b < _ by omega)] at hc1 hc2
      have hBr : B ≤ wr.heap.size := by have := hbr.size; omega
      have Hm := Lib.hid ((Hr.out.get hlt).1.below (w' := wr) (fun q hq => hbr.block q (by omega)))
      have Hsucc := Lib.hid (all_take_succ p qs j hlt)
      have Hno := Lib.hid (fun h => storyOk_no (p := p) hlt h)
      generalize qs.getD j qc0 = q at *
      obtain ⟨u, k, ms⟩ := q
      have hcl := fun w h hB => specClaimOk p k ms B u w h hB
      have Hbr := Lib.hid hbr
      clear hbr
      dsimp only at hc1 hc2
      have Hm' : Hid (RdMarks wr B u ms) := Hm.out
      have Hsucc' : Hid (((qs.take (j + 1)).all fun q => claimOk p q.2) = (((qs.take j).all fun q => claimOk p q.2) && claimOk p (k, ms))) := Hsucc.out
      have Hno' : Hid (claimOk p (k, ms) = false → storyOk p (qs.map (·.2)) = false) := Hno.out
      clear Hm Hsucc Hno
      cases hok : claimOk p (k, ms) with
      | false =>
        have Hf := Lib.hid (Hno'.out hok)
        rw [hok] at hcl
        have Hc := Lib.hid hcl; clear hcl hok
        go_wp2_with fail
        refine (Hc.out _ Hm'.out hBr).mono ?_
        rintro e w2 ⟨rfl, hb2⟩
        have Hb2 := Lib.hid (Hbr.out.trans (hb2.mono Hbr.out.size)); clear hb2
        go_wp2
        go_ret
        exact ⟨by rw [Hf.out]; rfl, Hb2.out⟩
      | true =>
        have Hs : Hid (((qs.take (j + 1)).all fun q => claimOk p q.2) = true) := by
          unfold Hid
          rw [Hsucc'.out, hall.out, hok]; rfl
        rw [hok] at hcl
        have Hc := Lib.hid hcl; clear hcl hok
        go_wp2_with fail
        refine (Hc.out _ Hm'.out hBr).mono ?_
        rintro e w2 ⟨rfl, hb2⟩
        have Hb2 := Lib.hid (Hbr.out.trans (hb2.mono Hbr.out.size)); clear hb2
        go_wp2
        go_roundw
        case rel => exact ⟨j + 1, by omega, by go_num, Hs, Hb2.out⟩
        case measure => simp [intOf]; omega
    · obtain rfl : j = qs.length := by omega
      have Hv := Lib.hid (storyOk_all hall.out)
      have Hbr := Lib.hid hbr; clear hbr
      have hin := fun w => specIn p 1 4 w
      rw [show decide (1 ≤ p ∧ p ≤ 4) = pOk p from rfl] at hin
      cases hp : pOk p with
      | false =>
        rw [hp] at Hv hin
        have Hin := Lib.hid hin; clear hin hp
        go_wp2_with fail
        refine (Hin.out _).mono ?_
        rintro e w' ⟨rfl, rfl⟩
        go_wp2
        go_ret
        exact ⟨by rw [Hv.out]; rfl, Hbr.out⟩
      | true =>
        rw [hp] at Hv hin
        have Hin := Lib.hid hin; clear hin hp
        go_wp2_with fail
        refine (Hin.out _).mono ?_
        rintro e w' ⟨rfl, rfl⟩
        go_wp2
        go_ret
        exact ⟨ret_bool (by rw [Hv.out, Bool.true_and]; try (rw [decide_eq_decide]; omega)), Hbr.out⟩
theorem story_take (p : Int) (qs : List QC) (j : Nat) (hj : j < qs.length) : storyN p ((qs.take (j + 1)).map (·.2)) = storyN p ((qs.take j).map (·.2)) &&& ctabN p (qs.getD j qc0).2 := by
  have e : qs.getD j qc0 = qs[j] := by simp [List.getD, hj]
  rw [List.take_succ_eq_append_getElem hj, List.map_append, e]
  exact storyN_snoc p _ _
set_option maxRecDepth 100000 in
set_option maxHeartbeats 2000000 in
theorem specStoryTab (p : Int) (qs : List QC) (hok : storyOk p (qs.map (·.2)) = true) (B : Nat) (v : Value) (w : World) (hr : RdStory w B v qs) (hB : B ≤ w.heap.size) :
    Calls Tryd.prog 65 #[.int .i64 p, v] w fun e w' => e = .returned (.int .i64 (storyN p (qs.map (·.2)))) ∧ Below w.heap.size w w' := by
  obtain ⟨hall, hp, _⟩ := storyOk_iff.1 hok
  have hp14 : 1 ≤ p ∧ p ≤ 4 := by simpa [pOk] using hp
  obtain ⟨h1, h4⟩ := hp14
  have Hall : Hid (∀ j, j < qs.length → claimOk p (qs.getD j qc0).2 = true) := fun j hj => by
    have e : qs.getD j qc0 = qs[j] := by simp [List.getD, hj]
    rw [e]; exact hall _ (List.mem_map.2 ⟨_, List.getElem_mem hj, rfl⟩)
  have Hlt : Hid (∀ s, storyN p s < 65536) := fun s => storyN_lt h1 h4
  have Hct : Hid (∀ c, ctabN p c < 65536) := fun s => ctabN_lt h1 h4
  have H0 := Lib.hid (storyN_nil p)
  have Hr := Lib.hid hr
  obtain ⟨ao, cap, rfl, hal, ham, _, hac0⟩ := hr
  have hac := Lib.hid hac0; clear hac0 hall hp hok
  unfold maxLen at ham
  obtain ⟨wo, rfl⟩ : ∃ wo : World, wo = w := ⟨_, rfl⟩
  obtain ⟨F, hF⟩ : ∃ F : Int, F = (storyN p [] : Int) := ⟨_, rfl⟩
  have HF := Lib.hid hF; clear hF
  have hFl : F = 3 ∨ F = 15 ∨ F = 255 ∨ F = 65535 := by
    have h0 := HF.out
    rw [H0.out] at h0
    rcases p_cases h1 h4 with rfl | rfl | rfl | rfl <;> (simp at h0; omega)
  have Hcl0 := Lib.hid (fun k ms (h : claimOk p (k, ms) = true) u w h1 h2 => specClaimTab h B u w h1 h2)
  have Hsucc0 := Lib.hid (fun j hj => story_take p qs j hj)
  generalize storyN p = SN at *
  generalize ctabN p = CT at *
  rcases p_cases h1 h4 with rfl | rfl | rfl | rfl
  all_goals
    clear h1 h4 hFl
    go_enter Tryd.func65, Tryd.ntmps65
    go_wp2
    go_loopw [5, 6] (fun t' i wr => ∃ j : Nat, j ≤ qs.length ∧ i = .int .i64 j ∧ t' = .int .i64 (SN ((qs.take j).map (·.2))) ∧ Below wo.heap.size wo wr) (fun _ i _ => qs.length - (intOf i).toNat)
    case atStart => exact ⟨0, Nat.zero_le _, rfl, by rw [List.take_zero, List.map_nil, H0.out]; rfl, Below.refl _ _⟩
    case round =>
      obtain ⟨j, hj, rfl, rfl, hbr⟩ := hrel
      by_cases hlt : j < qs.length
      · obtain ⟨b, off, rfl, hb, hc1, hc2⟩ := hac.out j hlt
        rw [← hbr.cell (p := ⟨b, _, none⟩) (show b < _ by omega)] at hc1 hc2
        have hBr : B ≤ wr.heap.size := by have := hbr.size; omega
        have Hm := Lib.hid ((Hr.out.get hlt).1.below (w' := wr) (fun q hq => hbr.block q (by omega)))
        have Hsucc := Lib.hid (Hsucc0.out j hlt)
        have hok := Hall.out j hlt
        generalize qs.getD j qc0 = q at *
        obtain ⟨u, k, ms⟩ := q
        have Hcl := Lib.hid (fun w h hB => Hcl0.out k ms hok u w h hB)
        have Hbr := Lib.hid hbr
        clear hbr hok
        dsimp only at hc1 hc2
        have Hm' : Hid (RdMarks wr B u ms) := Hm.out
        have Hsucc' : Hid (SN ((qs.take (j + 1)).map (·.2)) = SN ((qs.take j).map (·.2)) &&& CT (k, ms)) := Hsucc.out
        have hand := bits_and_nat (SN ((qs.take j).map (·.2))) (CT (k, ms)) (by have := Hlt.out ((qs.take j).map (·.2)); omega) (by have := Hct.out (k, ms); omega)
        clear Hm Hsucc
        generalize SN ((qs.take j).map (·.2)) = T at *
        generalize CT (k, ms) = U at *
        go_wp2_with fail
        refine (Hcl.out _ Hm'.out hBr).mono ?_
        rintro e w2 ⟨rfl, hb2⟩
        have Hb2 := Lib.hid (Hbr.out.trans (hb2.mono Hbr.out.size)); clear hb2
        go_wp2
        go_roundw
        case rel => exact ⟨j + 1, by omega, by go_num, by rw [Hsucc'.out], Hb2.out⟩
        case measure => simp [intOf]; omega
      · obtain rfl : j = qs.length := by omega
        have Hbr := Lib.hid hbr; clear hbr
        go_wp2
        go_ret
        exact ⟨by rw [List.take_length]; rfl, Hbr.out⟩
set_option maxHeartbeats 1000000 in
theorem specStoryTable (p : Int) (qs : List QC) (B : Nat) (v : Value) (w : World) (hr : RdStory w B v qs) (hB : B ≤ w.heap.size) :
    Calls Tryd.prog 53 #[.int .i64 p, v] w fun e w' => e = .returned (.int .i64 (storyV p (qs.map (·.2)))) ∧ Below w.heap.size w w' := by
  have hc := fun w h hB => specStoryOk p qs B v w h hB
  cases hok : storyOk p (qs.map (·.2)) with
  | false =>
    have Hf := Lib.hid (storyV_no hok)
    rw [hok] at hc
    have Hc := Lib.hid hc; clear hc hok
    go_enter Tryd.func53, Tryd.ntmps53
    go_wp2_with fail
    refine (Hc.out _ hr hB).mono ?_
    rintro e w2 ⟨rfl, hb2⟩
    have Hb2 := Lib.hid hb2; clear hb2
    go_wp2
    go_ret
    exact ⟨by rw [Hf.out]; rfl, Hb2.out⟩
  | true =>
    have Hf := Lib.hid (storyV_yes hok)
    have Hm := Lib.hid (fun w h hB => specStoryTab p qs hok B v w h hB)
    rw [hok] at hc
    have Hc := Lib.hid hc; clear hc hok
    generalize storyN p (qs.map (·.2)) = TT at *
    go_enter Tryd.func53, Tryd.ntmps53
    go_wp2_with fail
    refine (Hc.out _ hr hB).mono ?_
    rintro e w2 ⟨rfl, hb2⟩
    have Hr2 := Lib.hid (hr.below (w' := w2) (fun q hq => hb2.block q (by omega)))
    have hB2 : B ≤ w2.heap.size := by have := hb2.size; omega
    have Hb2 := Lib.hid hb2; clear hb2
    go_wp2_with fail
    refine (Hm.out _ Hr2.out hB2).mono ?_
    rintro e w3 ⟨rfl, hb3⟩
    have Hb3 := Lib.hid (Hb2.out.trans (hb3.mono Hb2.out.size)); clear hb3
    go_wp2
    go_ret
    exact ⟨by rw [Hf.out]; rfl, Hb3.out⟩
end Go.Proofs.YtilgkheefhobgaaDoor

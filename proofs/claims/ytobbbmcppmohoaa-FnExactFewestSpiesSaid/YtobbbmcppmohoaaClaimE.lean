/- Contracts of what the laws do with claims. -/
import Derived.Test.YtobbbmcppmohoaaClaim
import Derived.Test.YtobbbmcppmohoaaMarksB
import Derived.Test.YtobbbmcppmohoaaMarksC
import Derived.Test.YtobbbmcppmohoaaTables
import Derived.Deep.RegionHeld3
import Derived.Deep.Cut
namespace Go.Proofs.Ytobbbmcppmohoaa
open Go.RowKit Go.Joins
/-- two blocks laid, one behind the other -/
theorem boxes_new (w : World) (a b c d : Value) (T U : TypeId) : ∃ w2 : World, w2 = (w.alloc (.cells #[a, b] T)).alloc (.cells #[c, d] U) ∧ Box w2 w.heap.size a b ∧ Box w2 (w.heap.size + 1) c d ∧ Below w.heap.size w w2 ∧ w.heap.size + 1 < w2.heap.size := by
  obtain ⟨w1, e1, h1, hb1, hs1⟩ := Box.new w a b T
  obtain ⟨w2, e2, h2, hb2, hs2⟩ := Box.new w1 c d U
  have e : w1.heap.size = w.heap.size + 1 := by rw [e1]; simp
  rw [e] at h2 hs2
  exact ⟨w2, by rw [e2, e1], h1.below hb2, h2, hb1.trans (hb2.mono hb1.size), hs2⟩
set_option maxHeartbeats 1000000 in
theorem eqClaim (k : Int) (ms : List (Int × Int)) (B B' : Nat) (u u' : Value) (w : World) (hr : RdMarks w B u ms) (hr' : RdMarks w B' u' ms) (hB : B ≤ w.heap.size) (hB' : B' ≤ w.heap.size) :
    Calls Try.prog 50 #[.agg #[.int .i64 k, u], .agg #[.int .i64 k, u']] w fun e w' => e = .returned (.bool true) ∧ Below w.heap.size w w' := by
  go_enter Try.func50, Try.ntmps50
  go_upto_region 1 with fail
  obtain ⟨w2, hw2, hx, hy, hb, hs⟩ := boxes_new w (.int .i64 k) u (.int .i64 k) u' TC TC
  rw [← hw2]
  have Hr := Lib.hid (hr.below (w' := w2) (fun q hq => hb.block q (by omega)))
  have Hr' := Lib.hid (hr'.below (w' := w2) (fun q hq => hb.block q (by omega)))
  have hB2 : B ≤ w2.heap.size := by omega
  have hB2' : B' ≤ w2.heap.size := by omega
  obtain ⟨x1, x2, _⟩ := hx
  obtain ⟨y1, y2, _⟩ := hy
  have Hb := Lib.hid hb
  clear hr hr' hb hw2
  go_wp2_with fail
  refine (eqMarkS ms ms _ _ _ _ _ Hr.out Hr'.out hB2 hB2').mono ?_
  rintro e w3 ⟨rfl, hb3⟩
  rw [show decide (ms = ms) = true from by simp]
  have Hb3 := Lib.hid (Hb.out.trans (hb3.mono Hb.out.size)); clear hb3
  go_wp2
  go_ret
  exact ⟨rfl, Hb3.out⟩
set_option maxHeartbeats 1000000 in
theorem szClaim (k : Int) (ao : Option Addr) (n cap : Nat) (hn : (n : Int) ≤ 9223372036854775807) (w : World) :
    Calls Try.prog 48 #[.agg #[.int .i64 k, .slice ao n cap], .int .i64 1048576] w fun e w' => e = .returned (.int .i64 (if n ≤ 1048576 then 1048576 - (n : Int) else -1)) ∧ Below w.heap.size w w' := by
  have hv : (if n ≤ 1048576 then 1048576 - (n : Int) else -1) = 1048576 - (n : Int) ∧ n ≤ 1048576 ∨ (if n ≤ 1048576 then 1048576 - (n : Int) else -1) = -1 := by
    by_cases h : n ≤ 1048576
    · left; rw [if_pos h]; exact ⟨rfl, h⟩
    · right; rw [if_neg h]
  have Hz := Lib.hid (fun w => szMarkS ao n cap hn w)
  generalize (if n ≤ 1048576 then 1048576 - (n : Int) else -1) = V at *
  have hV : ¬ V < 0 ∨ V = -1 := by
    rcases hv with ⟨rfl, h⟩ | rfl
    · left; omega
    · right; rfl
  clear hv
  have hbw : ∀ o, Below w.heap.size w (w.alloc o) := fun o => (Below.refl _ _).alloc (Nat.le_refl _) o
  rcases hV with hV | rfl
  all_goals
    go_enter Try.func48, Try.ntmps48
    go_wp2_with fail
    refine (Hz.out _).mono ?_
    rintro e w' ⟨rfl, rfl⟩
    go_wp2
    go_ret
    exact ⟨rfl, hbw _⟩
set_option maxHeartbeats 2000000 in
theorem toClaim (k : Int) (zs : List (Int × Int)) (hsz : zs.length ≤ 1048576) (B : Nat) (a : Value) (w : World) (hx : RdMarks w B a zs) (hB : B ≤ w.heap.size) :
    Calls Try.prog 49 #[.agg #[.int .i64 k, a]] w fun e w' => ∃ v, e = .returned (.agg #[.int .i64 k, v]) ∧ w'.ownsRow w.heap.size TM 2 v zs.length (mcells zs) ∧ Below w.heap.size w w' := by
  go_enter Try.func49, Try.ntmps49
  go_upto_region 1 with fail
  obtain ⟨w2, hw2, hx2, hy2, hb2, hs2⟩ := boxes_new w (.int .i64 k) a (.int .i64 0) (.slice none 0 0) 58 TC
  rw [← hw2]
  clear hw2
  go_upto_region 2 with fail
  obtain ⟨w3, hw3, hz3, hb3, hs3⟩ := Box.new w2 (.int .i64 0) (.slice none 0 0) TC
  rw [← hw3]
  clear hw3
  have hx3 := hx2.below hb3
  have hy3 := hy2.below hb3
  obtain ⟨w4, e4, hz4, hg4⟩ := hz3.set0 (.int .i64 k)
  have hx4 := hx3.grown hg4 (by simp; omega)
  have hy4 := hy3.grown hg4 (by simp; omega)
  have hb04 : Below w.heap.size w w4 := (hb2.trans (hb3.mono hb2.size)).grown hg4 (by have := hb2.size; have := hb3.size; omega) (fun q hq => by cases hq; exact hb2.size)
  have Hr4 := Lib.hid (hx.below (w' := w4) (fun q hq => hb04.block q (by omega)))
  have hB4 : B ≤ w4.heap.size := by have := hb04.size; omega
  have Hx4 := Lib.hid hx4
  have Hy4 := Lib.hid hy4
  have Hz4 := Lib.hid hz4
  have E4 := Lib.hid e4
  have Hb4 := Lib.hid hb04
  have hs4 := hg4.size
  obtain ⟨z1, z2, z3, z4, z5⟩ := hz3
  obtain ⟨x1, x2, x3, x4, x5⟩ := hx3
  clear hx hx2 hy2 hy3 hx4 hy4 hz4 hg4 e4 hb04 hb2 hb3
  go_upto_region 3 with fail
  rw [← E4.out]
  clear z1 z2 z3 z4 z5 x1 x2 x3 x4 x5
  have x1 := Hx4.out.1
  have x2 := Hx4.out.2.1
  go_wp2_with fail
  refine (toMarkS zs hsz _ _ _ Hr4.out hB4).mono ?_
  rintro e w5 ⟨v, rfl, hown, hb5⟩
  obtain ⟨vo, vc, hv⟩ := own_len hown
  subst hv
  have hz5 := Hz4.out.below hb5
  have hy5 := Hy4.out.below hb5
  have hb05 := Hb4.out.trans (hb5.mono Hb4.out.size)
  obtain ⟨w6, e6, hz6, hg6⟩ := hz5.set1 (.slice vo zs.length vc)
  have hs5 := hb5.size
  have hy6 := hy5.grown hg6 (by simp; omega)
  have hown6 := own_row hown hg6 (by omega)
  obtain ⟨w7, e7, hy7, hg7⟩ := hy6.set (.int .i64 k) (.slice vo zs.length vc)
  have hown7 := own_row hown6 hg7 (by omega)
  have hout := (hb05.grown hg6 hb05.size (fun q hq => by cases hq; omega)).grown hg7 (by have := hg6.size; have := hb05.size; omega) (fun q hq => by cases hq; omega)
  have Hout := Lib.hid hout
  have Hown := Lib.hid (own_mono (base := w.heap.size) hown7 (by have := Hb4.out.size; omega))
  have E6 := Lib.hid e6
  have E7 := Lib.hid e7
  have Hy7 := Lib.hid hy7
  obtain ⟨y1, y2, y3, y4, y5⟩ := hy6
  obtain ⟨u1, u2, u3, u4, u5⟩ := hz6
  obtain ⟨z1, z2, z3, z4, z5⟩ := hz5
  clear hb5 hb05 hown hown6 hown7 hout hg6 hg7 e6 e7 hy7 hy5 x1 x2
  go_upto_region 4 with fail
  rw [← E6.out]
  clear z1 z2 z3 z4 z5
  go_wp2
  rw [← E7.out]
  obtain ⟨q1, q2, _⟩ := Hy7.out
  exact bodyPost_ret (v := .agg #[.int .i64 k, .slice vo zs.length vc]) (by simp [results, Try.results49, go_sem, q1, q2]) rfl ⟨_, rfl, Hown.out, Hout.out⟩
end Go.Proofs.Ytobbbmcppmohoaa

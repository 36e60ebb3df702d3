/- Contracts of denied claims: the program's own, and the reference's. -/
import Derived.Test.YtobbbmcppmohoaaClaimI
import Derived.Test.YtobbbmcppmohoaaHave
import Derived.Deep.RegionHeld3
import Derived.Deep.Cut
import Derived.OwnWalk
namespace Go.Proofs.Ytobbbmcppmohoaa
open Go.RowKit Go.Joins
attribute [local irreducible] holds tabN tabV holdsV sameV followsV alwaysV matterV claimOk mayT mayV ctabV ctabN storyV storyOk storyN storyT ctermV ctermL denyV denyOk allV
theorem denyOk_no {p : Int} {c : Cl} (h : claimOk p c = false) : denyOk p c = false ∧ denyV p c = (0, []) := by
  have h1 : denyOk p c = false := by unfold denyOk; rw [h]; rfl
  exact ⟨h1, by unfold denyV; rw [h1]; rfl⟩
theorem denyOk_no2 {p k : Int} {ms : List (Int × Int)} (h : claimOk p (k, ms ++ [(2, 0)]) = false) : denyOk p (k, ms) = false ∧ denyV p (k, ms) = (0, []) := by
  have h1 : denyOk p (k, ms) = false := by
    unfold denyOk denyL
    cases claimOk p (k, ms)
    · rfl
    · exact h
  exact ⟨h1, by unfold denyV; rw [h1]; rfl⟩
theorem denyOk_yes {p k : Int} {ms : List (Int × Int)} (h : claimOk p (k, ms) = true) (h' : claimOk p (k, ms ++ [(2, 0)]) = true) : denyOk p (k, ms) = true ∧ denyV p (k, ms) = (k, ms ++ [(2, 0)]) := by
  have h1 : denyOk p (k, ms) = true := by unfold denyOk denyL; rw [h]; exact h'
  exact ⟨h1, by unfold denyV; rw [h1]; rfl⟩
theorem below_allocs2 (w : World) (a b : Obj) : Below w.heap.size w ((w.alloc a).alloc b) :=
  ((Below.refl _ _).alloc (Nat.le_refl _) _).alloc (by simp) _
/-- the variable of a claim and the result's variable, laid one behind the other -/
theorem two_boxes (w : World) (k : Int) (u : Value) : ∃ w2 : World, w2 = (w.alloc (.cells #[.int .i64 k, u] TC)).alloc (.cells #[.int .i64 0, .slice none 0 0] TC) ∧ Box w2 w.heap.size (.int .i64 k) u ∧ Box w2 (w.heap.size + 1) (.int .i64 0) (.slice none 0 0) ∧ Below w.heap.size w w2 ∧ w2.heap.size = w.heap.size + 2 := by
  obtain ⟨w1, e1, h1, b1, s1⟩ := Box.new w (.int .i64 k) u TC
  obtain ⟨w2, e2, h2, b2, s2⟩ := Box.new w1 (.int .i64 0) (.slice none 0 0) TC
  have hz : w1.heap.size = w.heap.size + 1 := by rw [e1]; simp
  rw [hz] at h2
  exact ⟨w2, by rw [e2, e1], h1.below b2, h2, b1.trans (b2.mono b1.size), by rw [e2, e1]; simp⟩
theorem below_rowD {w w1 w2 : World} {row : Option Nat} (h : Below w.heap.size w w1) (hg : w1.grownBy w2 row) (hr : ∀ k, row = some k → w.heap.size ≤ k) : Below w.heap.size w w2 :=
  ⟨hg.os.trans h.os, hg.tape.trans h.tape, hg.output.trans h.output, Nat.le_trans h.size hg.size, fun i hi => (hg.block i (Nat.lt_of_lt_of_le hi h.size) (fun e => by have := hr i e.symm; omega)).trans (h.block i hi)⟩
/-- what is handed back of a claim that cannot be denied -/
theorem deny_none {w w3 : World} {p : Int} {c : Cl} {g : Nat} {a b : Value} (hg : w.heap.size ≤ g) (hx : Box w3 g a b) (hb : Below w.heap.size w w3) (h : denyOk p c = false ∧ denyV p c = (0, [])) :
    ∃ w4, w4 = (w3.setCell ⟨g, 0, none⟩ (.int .i64 0)).setCell ⟨g, 1, none⟩ (.slice none 0 0) ∧ Box w4 g (.int .i64 0) (.slice none 0 0) ∧ ClaimOut (denyV p c) (denyOk p c) w (.returned (.tuple #[.agg #[.int .i64 0, .slice none 0 0], .bool false])) w4 := by
  obtain ⟨w4, e4, h4, g4⟩ := hx.set (.int .i64 0) (.slice none 0 0)
  refine ⟨w4, e4, h4, ?_⟩
  rw [h.1, h.2]
  exact ⟨_, rfl, World.ownsRow_nil _ _ _ _, below_rowD hb g4 (fun q hq => by cases hq; exact hg)⟩
/-- what is handed back of a claim that is denied -/
theorem deny_some {w w3 w5 : World} {p k : Int} {ms : List (Int × Int)} {g : Nat} {a b x : Value} (hg : w.heap.size ≤ g) (hgr : g < w3.heap.size) (hx : Box w5 g a b) (hb : Below w.heap.size w w5) (ho : w5.ownsRow w3.heap.size TM 2 x (ms.length + 1) (mcells (ms ++ [(2, 0)]))) (h : denyOk p (k, ms) = true ∧ denyV p (k, ms) = (k, ms ++ [(2, 0)])) :
    ∃ w6, w6 = (w5.setCell ⟨g, 0, none⟩ (.int .i64 k)).setCell ⟨g, 1, none⟩ x ∧ Box w6 g (.int .i64 k) x ∧ ClaimOut (denyV p (k, ms)) (denyOk p (k, ms)) w (.returned (.tuple #[.agg #[.int .i64 k, x], .bool true])) w6 := by
  obtain ⟨w6, e6, h6, g6⟩ := hx.set (.int .i64 k) x
  refine ⟨w6, e6, h6, ?_⟩
  rw [h.1, h.2]
  refine ⟨x, rfl, ?_, below_rowD hb g6 (fun q hq => by cases hq; exact hg)⟩
  show w6.ownsRow w.heap.size TM 2 x (ms ++ [(2, 0)]).length _
  rw [List.length_append]
  exact own_mono (own_row ho g6 hgr) (by omega)
set_option maxRecDepth 100000 in
set_option maxHeartbeats 4000000 in
theorem implClaimIfOk_no {p k : Int} {ms : List (Int × Int)} (hok : claimOk p (k, ms) = false) (B : Nat) (u : Value) (w : World) (hr : RdMarks w B u ms) (hB : B ≤ w.heap.size) :
    Calls Try.prog 66 #[.int .i64 p, .agg #[.int .i64 k, u]] w fun e w' => e = .returned (.tuple #[.agg #[.int .i64 0, .slice none 0 0], .bool false]) ∧ Below w.heap.size w w' := by
  have hc := fun w h hB => implClaimOk p k ms B u w h hB
  obtain ⟨w2, hw2, hx2, hy2, hb2, hs2⟩ := two_boxes w k u
  have Hr2 := Lib.hid (hr.below (w' := w2) (fun q hq => hb2.block q (by omega)))
  have hB2 : B ≤ w2.heap.size := by omega
  rw [hok] at hc
  have Hc := Lib.hid hc; clear hc hok hr
  go_enter Try.func66, Try.ntmps66
  go_upto_region 1 with fail
  rw [← hw2]
  clear hw2
  obtain ⟨x1, x2, x3, x4, x5⟩ := hx2
  go_wp2_with fail
  refine (Hc.out _ Hr2.out hB2).mono ?_
  rintro e w3 ⟨rfl, hb3⟩
  have hy3 := hy2.below hb3
  obtain ⟨w4, e4, hx4, g4⟩ := hy3.set (.int .i64 0) (.slice none 0 0)
  have E4 := Lib.hid e4
  have HB4 := Lib.hid (below_rowD (hb2.trans (hb3.mono hb2.size)) g4 (fun q hq => by cases hq; omega))
  obtain ⟨y1, y2, y3, y4, y5⟩ := hy3
  clear e4 g4 hb3 hb2 hy2 x1 x2 x3 x4 x5
  go_wp2
  rw [← E4.out]
  obtain ⟨z1, z2, _⟩ := hx4
  exact bodyPost_ret (by simp [results, Try.results66, go_sem, z1, z2]) rfl ⟨rfl, HB4.out⟩
set_option maxRecDepth 100000 in
set_option maxHeartbeats 4000000 in
theorem implClaimIfOk_yes {p k : Int} {ms : List (Int × Int)} (hok : claimOk p (k, ms) = true) (B : Nat) (u : Value) (w : World) (hr : RdMarks w B u ms) (hB : B ≤ w.heap.size) :
    Calls Try.prog 66 #[.int .i64 p, .agg #[.int .i64 k, u]] w fun e w' => e = .returned (.tuple #[.agg #[.int .i64 k, u], .bool true]) ∧ Below w.heap.size w w' := by
  obtain ⟨ao, cap, rfl⟩ : ∃ ao cap, u = .slice ao ms.length cap := by
    obtain ⟨a, c, h, _⟩ := hr
    exact ⟨a, c, h⟩
  have hc := fun w h hB => implClaimOk p k ms B (.slice ao ms.length cap) w h hB
  obtain ⟨w2, hw2, hx2, hy2, hb2, hs2⟩ := two_boxes w k (.slice ao ms.length cap)
  have Hr2 := Lib.hid (hr.below (w' := w2) (fun q hq => hb2.block q (by omega)))
  have hB2 : B ≤ w2.heap.size := by omega
  rw [hok] at hc
  have Hc := Lib.hid hc; clear hc hok hr
  go_enter Try.func66, Try.ntmps66
  go_upto_region 1 with fail
  rw [← hw2]
  clear hw2
  have HX2 := Lib.hid hx2
  obtain ⟨x1, x2, x3, x4, x5⟩ := hx2
  go_wp2_with fail
  refine (Hc.out _ Hr2.out hB2).mono ?_
  rintro e w3 ⟨rfl, hb3⟩
  have hy3 := hy2.below hb3
  obtain ⟨w4, e4, hx4, g4⟩ := hy3.set (.int .i64 k) (.slice ao ms.length cap)
  have E4 := Lib.hid e4
  have HB4 := Lib.hid (below_rowD (hb2.trans (hb3.mono hb2.size)) g4 (fun q hq => by cases hq; omega))
  obtain ⟨q1, q2, _, _, _⟩ := HX2.out.below hb3
  obtain ⟨y1, y2, y3, y4, y5⟩ := hy3
  clear e4 g4 hb3 hb2 hy2 x1 x2 x3 x4 x5
  go_wp2
  rw [← E4.out]
  obtain ⟨z1, z2, _⟩ := hx4
  exact bodyPost_ret (by simp [results, Try.results66, go_sem, z1, z2]) rfl ⟨rfl, HB4.out⟩
/-- marks and one behind them, out of a row of two parts that the region laid -/
theorem deny_concat (w3 W : World) (g h B : Nat) (u : Value) (ms : List (Int × Int)) (hbW : Below w3.heap.size w3 W) (hr : RdMarks w3 B u ms) (hB : B ≤ w3.heap.size) (hl : ms.length ≤ 100) (hg : g < W.heap.size) (hh : h < W.heap.size) (c0 : W.cell? ⟨g, 0, none⟩ = some u) (c1 : W.cell? ⟨g, 1, none⟩ = some (.slice (some ⟨h, 0, none⟩) 1 1))
    (h0 : W.cell? ⟨h, 0, none⟩ = some (.int .i64 2)) (h1 : W.cell? ⟨h, 1, none⟩ = some (.int .i64 0)) :
    Calls Try.prog 67 #[.slice (some ⟨g, 0, none⟩) 2 2] W fun e w' => ∃ ao cp, e = .returned (.slice ao (ms.length + 1) cp) ∧ Below w3.heap.size w3 w' ∧ w'.ownsRow w3.heap.size TM 2 (.slice ao (ms.length + 1) cp) (ms.length + 1) (mcells (ms ++ [(2, 0)])) ∧ w'.ownsRow W.heap.size TM 2 (.slice ao (ms.length + 1) cp) (ms.length + 1) (mcells (ms ++ [(2, 0)])) ∧ Below W.heap.size W w' := by
  refine (concat2 W g h u ms 2 0 hg hh c0 c1 h0 h1 (I64_small (by omega) (by omega)) (I64_small (by omega) (by omega)) ((hr.below fun q hq => hbW.block q (by omega)).mono (by have := hbW.size; omega)) hl).mono ?_
  rintro e w' ⟨v, rfl, ho, hb⟩
  rw [List.length_append] at ho
  obtain ⟨ao, cp, rfl⟩ := own_len ho
  exact ⟨ao, cp, rfl, hbW.trans (hb.mono hbW.size), own_mono ho hbW.size, ho, hb⟩
set_option maxRecDepth 100000 in
set_option maxHeartbeats 4000000 in
theorem implDenyClaim (p k : Int) (ms : List (Int × Int)) (B : Nat) (u : Value) (w : World) (hr : RdMarks w B u ms) (hB : B ≤ w.heap.size) :
    Calls Try.prog 29 #[.int .i64 p, .agg #[.int .i64 k, u]] w (ClaimOut (denyV p (k, ms)) (denyOk p (k, ms)) w) := by
  have hc := fun w h hB => implClaimOk p k ms B u w h hB
  obtain ⟨w2, hw2, hx2, hy2, hb2, hs2⟩ := two_boxes w k u
  have Hr2 := Lib.hid (hr.below (w' := w2) (fun q hq => hb2.block q (by omega)))
  have hB2 : B ≤ w2.heap.size := by omega
  cases hok : claimOk p (k, ms) with
  | false =>
    have Hf := Lib.hid (denyOk_no hok)
    rw [hok] at hc
    have Hc := Lib.hid hc; clear hc hok hr
    go_enter Try.func29, Try.ntmps29
    go_upto_region 1 with fail
    rw [← hw2]
    clear hw2
    obtain ⟨x1, x2, x3, x4, x5⟩ := hx2
    go_wp2_with fail
    refine (Hc.out _ Hr2.out hB2).mono ?_
    rintro e w3 ⟨rfl, hb3⟩
    have hy3 := hy2.below hb3
    obtain ⟨w4, e4, hx4, hout⟩ := deny_none (w := w) (by omega) hy3 (hb2.trans (hb3.mono hb2.size)) Hf.out
    have E4 := Lib.hid e4
    have Hout := Lib.hid hout
    obtain ⟨y1, y2, y3, y4, y5⟩ := hy3
    clear e4 hout hb3 hb2 hy2 x1 x2 x3 x4 x5
    go_wp2
    rw [← E4.out]
    obtain ⟨z1, z2, _⟩ := hx4
    exact bodyPost_ret (by simp [results, Try.results29, go_sem, z1, z2]) rfl Hout.out
  | true =>
    have hl13 : ms.length ≤ 13 := (claimOk_iff.1 hok).2.2.2
    obtain ⟨ao, cap, rfl⟩ : ∃ ao cap, u = .slice ao ms.length cap := by
      obtain ⟨a, c, h, _⟩ := hr
      exact ⟨a, c, h⟩
    have Hok := Lib.hid hok
    have HI : Hid (I64s (ms ++ [((2 : Int), (0 : Int))])) := by
      obtain ⟨_, _, _, _, _, h, _⟩ := hr
      exact I64s_append h (I64s_one (I64_small (by omega) (by omega)) (I64_small (by omega) (by omega)))
    rw [hok] at hc
    have Hc := Lib.hid hc; clear hc hok hr
    go_enter Try.func29, Try.ntmps29
    go_upto_region 1 with fail
    rw [← hw2]
    clear hw2
    have hx2' := hx2
    obtain ⟨x1, x2, x3, x4, x5⟩ := hx2'
    go_wp2_with fail
    refine (Hc.out _ Hr2.out hB2).mono ?_
    rintro e w3 ⟨rfl, hb3⟩
    have hy3 := hy2.below hb3
    have hx3 := hx2.below hb3
    have Hr3 := Lib.hid (Hr2.out.below (w' := w3) (fun q hq => hb3.block q (by omega)))
    have hB3 : B ≤ w3.heap.size := by have := hb3.size; omega
    have HB3 := Lib.hid (hb2.trans (hb3.mono hb2.size))
    have hs3 : w.heap.size + 1 < w3.heap.size := hy3.2.2.2.2
    have hs3' : w.heap.size < w3.heap.size := by omega
    clear x1 x2 x3 x4 x5 hb3 hb2 hx2 hy2
    have HX3 := Lib.hid hx3
    have HY3 := Lib.hid hy3
    obtain ⟨x1, x2, x3, x4, x5⟩ := hx3
    clear hy3
    cases hok2 : claimOk p (k, ms ++ [(2, 0)]) with
    | false =>
      have Hf := Lib.hid (denyOk_no2 hok2)
      have Hif := Lib.hid (fun B u w h hB => implClaimIfOk_no hok2 B u w h hB)
      clear hok2
      go_upto_region 3 with fail
      go_region_held3 (fun w' => w'.cell? ⟨w.heap.size, 0, none⟩ = some (.int .i64 k) ∧ w'.cell? ⟨w.heap.size, 1, none⟩ = some (.slice ao ms.length cap))
        (first | (refine ⟨?_, ?_⟩ <;> first | go_keep | assumption) | assumption)
        (first
        | (go_at_call 67
           (with_reducible refine (deny_concat w3 _ _ (w3.heap.size) B (.slice ao ms.length cap) ms ?_ Hr3.out hB3 (by omega) ?_ ?_ ?_ ?_ ?_ ?_).mono ?_)
           · first | exact below_allocs2 w3 _ _ | exact below_drew1 (below_allocs2 w3 _ _) | exact below_drewN (below_allocs2 w3 _ _) _
           · first | (simp; done) | (simp; omega)
           · first | (simp; done) | (simp; omega)
           · go_simp
           · go_simp
           · go_simp
           · go_simp
           rintro e w5 ⟨a5, c5, rfl, hb5, ho5, _, _⟩
           go_must (obtain ⟨q1, q2, q3, q4, q5⟩ := HX3.out.below hb5
                    have Ho5 := Lib.hid ho5
                    have HR5 : Hid (RdMarks w5 w5.heap.size (.slice a5 (ms.length + 1) c5) (ms ++ [((2 : Int), (0 : Int))])) := by
                      refine RdMarks.of_own (base := w3.heap.size) (e := TM) ?_ HI.out
                      rw [List.length_append]
                      exact ho5
                    have HY5 := Lib.hid (HY3.out.below hb5)
                    have HX5 := Lib.hid (HX3.out.below hb5)
                    have HB5 := Lib.hid (HB3.out.trans (hb5.mono (by omega)))
                    clear hb5 ho5))
        | (go_at_call 66
           (with_reducible refine (Hif.out w5.heap.size _ _ ?_ ?_).mono ?_)
           · first | exact HR5.out | exact (HR5.out.below (fun q _ => rfl))
           · exact Nat.le_refl _
           rintro e w6 ⟨rfl, hb6'⟩
           go_must (have hb6 : Below w5.heap.size w5 w6 := by first | exact hb6' | exact below_undrewS hb6' | exact below_undrewN hb6'
                    clear hb6'
                    have hy6 := HY5.out.below hb6
                    obtain ⟨p1, p2, _, _, _⟩ := HX5.out.below hb6
                    obtain ⟨w7, e7, hx7, hout⟩ := deny_none (w := w) (by omega) hy6 (HB5.out.trans (hb6.mono HB5.out.size)) Hf.out
                    have E7 := Lib.hid e7
                    have HX7 := Lib.hid hx7
                    have Hout := Lib.hid hout
                    obtain ⟨y1, y2, y3, y4, y5⟩ := hy6
                    clear e7 hx7 hout hb6))
        | fail)
      all_goals
        go_wp2
        rw [← E7.out]
        obtain ⟨z1, z2, _⟩ := HX7.out
        exact bodyPost_ret (by simp [results, Try.results29, go_sem, z1, z2]) rfl Hout.out
    | true =>
      have Hf := Lib.hid (denyOk_yes Hok.out hok2)
      have Hif := Lib.hid (fun B u w h hB => implClaimIfOk_yes hok2 B u w h hB)
      clear hok2
      go_upto_region 3 with fail
      go_region_held3 (fun w' => w'.cell? ⟨w.heap.size, 0, none⟩ = some (.int .i64 k) ∧ w'.cell? ⟨w.heap.size, 1, none⟩ = some (.slice ao ms.length cap))
        (first | (refine ⟨?_, ?_⟩ <;> first | go_keep | assumption) | assumption)
        (first
        | (go_at_call 67
           (with_reducible refine (deny_concat w3 _ _ (w3.heap.size) B (.slice ao ms.length cap) ms ?_ Hr3.out hB3 (by omega) ?_ ?_ ?_ ?_ ?_ ?_).mono ?_)
           · first | exact below_allocs2 w3 _ _ | exact below_drew1 (below_allocs2 w3 _ _) | exact below_drewN (below_allocs2 w3 _ _) _
           · first | (simp; done) | (simp; omega)
           · first | (simp; done) | (simp; omega)
           · go_simp
           · go_simp
           · go_simp
           · go_simp
           rintro e w5 ⟨a5, c5, rfl, hb5, ho5, _, _⟩
           go_must (obtain ⟨q1, q2, q3, q4, q5⟩ := HX3.out.below hb5
                    have Ho5 := Lib.hid ho5
                    have HR5 : Hid (RdMarks w5 w5.heap.size (.slice a5 (ms.length + 1) c5) (ms ++ [((2 : Int), (0 : Int))])) := by
                      refine RdMarks.of_own (base := w3.heap.size) (e := TM) ?_ HI.out
                      rw [List.length_append]
                      exact ho5
                    have HY5 := Lib.hid (HY3.out.below hb5)
                    have HX5 := Lib.hid (HX3.out.below hb5)
                    have HB5 := Lib.hid (HB3.out.trans (hb5.mono (by omega)))
                    clear hb5 ho5))
        | (go_at_call 66
           (with_reducible refine (Hif.out w5.heap.size _ _ ?_ ?_).mono ?_)
           · first | exact HR5.out | exact (HR5.out.below (fun q _ => rfl))
           · exact Nat.le_refl _
           rintro e w6 ⟨rfl, hb6'⟩
           go_must (have hb6 : Below w5.heap.size w5 w6 := by first | exact hb6' | exact below_undrewS hb6' | exact below_undrewN hb6'
                    clear hb6'
                    have hy6 := HY5.out.below hb6
                    obtain ⟨p1, p2, _, _, _⟩ := HX5.out.below hb6
                    obtain ⟨w7, e7, hx7, hout⟩ := deny_some (w := w) (w3 := w3) (by omega) hs3 hy6 (HB5.out.trans (hb6.mono HB5.out.size)) (own_below Ho5.out hb6) Hf.out
                    have E7 := Lib.hid e7
                    have HX7 := Lib.hid hx7
                    have Hout := Lib.hid hout
                    obtain ⟨y1, y2, y3, y4, y5⟩ := hy6
                    clear e7 hx7 hout hb6))
        | fail)
      all_goals
        go_wp2
        rw [← E7.out]
        obtain ⟨z1, z2, _⟩ := HX7.out
        exact bodyPost_ret (by simp [results, Try.results29, go_sem, z1, z2]) rfl Hout.out
end Go.Proofs.Ytobbbmcppmohoaa

/- The reference model's draws of proofs. -/
import Derived.Test.YtilgkheefhobgaaDoorDrawPt
namespace Go.Proofs.YtilgkheefhobgaaDoor
open Go.RowKit Go.Joins
def OutPP (w : World) (e : Ending) (w' : World) : Prop :=
  ∃ (p : Int) (v : Value) (qs : List QC) (g cap : Nat) (ms : List (Int × Int)), 1 ≤ p ∧ p ≤ 4 ∧ e = .returned (.tuple #[.int .i64 p, v, .slice (some ⟨g, 0, none⟩) ms.length cap]) ∧ StoryIn w' w.heap.size w.heap.size v qs ∧ QSmall qs ∧ qs.length ≤ 7 ∧
    w'.ownsRow w.heap.size TM 2 (.slice (some ⟨g, 0, none⟩) ms.length cap) ms.length (mcells ms) ∧ I64s ms ∧ ms.length ≤ 20 ∧ Below w.heap.size w w'
def OutPQ (w : World) (e : Ending) (w' : World) : Prop :=
  ∃ (p : Int) (v : Value) (qs : List QC) (g cap : Nat) (ms : List (Int × Int)) (fi : Int) (pv : Value) (sp : List Sp3), 1 ≤ p ∧ p ≤ 4 ∧ e = .returned (.tuple #[.int .i64 p, v, .slice (some ⟨g, 0, none⟩) ms.length cap, .agg #[.int .i64 fi, pv]]) ∧ StoryIn w' w.heap.size w.heap.size v qs ∧ QSmall qs ∧ qs.length ≤ 7 ∧
    w'.ownsRow w.heap.size TM 2 (.slice (some ⟨g, 0, none⟩) ms.length cap) ms.length (mcells ms) ∧ I64s ms ∧ ms.length ≤ 20 ∧ w'.ownsRow w.heap.size TSp 3 pv sp.length (scells sp) ∧ S64 sp ∧ sp.length ≤ 16 ∧ I64 fi ∧ Below w.heap.size w w'
def OutPR (w : World) (e : Ending) (w' : World) : Prop :=
  ∃ (p : Int) (v : Value) (qs : List QC) (g cap : Nat) (ms : List (Int × Int)) (s : List UInt8), 1 ≤ p ∧ p ≤ 4 ∧ e = .returned (.tuple #[.int .i64 p, v, .slice (some ⟨g, 0, none⟩) ms.length cap, sv s]) ∧ StoryIn w' w.heap.size w.heap.size v qs ∧ QSmall qs ∧ qs.length ≤ 7 ∧
    w'.ownsRow w.heap.size TM 2 (.slice (some ⟨g, 0, none⟩) ms.length cap) ms.length (mcells ms) ∧ I64s ms ∧ ms.length ≤ 20 ∧ s.length ≤ 1000 ∧ Below w.heap.size w w'
theorem ext_take11 (T : List UInt8) (k : Nat) : (⟨T.toArray⟩ : ByteArray).extract 0 k = ⟨(T.take k).toArray⟩ := by
  apply ByteArray.ext
  simp
theorem ext_drop11 (T : List UInt8) (k : Nat) : (⟨T.toArray⟩ : ByteArray).extract k T.length = ⟨(T.drop k).toArray⟩ := by
  apply ByteArray.ext
  simp
  exact List.take_of_length_le (by simp)
abbrev eightO : Obj := .cells #[sv [], sv [40], sv [41], sv [44], sv [42], sv [48], sv [97, 40, 42, 44, 42, 41], sv [101]] 9
def eightL (Z : Nat) : List UInt8 := ([[], [40], [41], [44], [42], [48], [97, 40, 42, 44, 42, 41], [101]] : List (List UInt8)).getD Z []
theorem eight (W : World) (Z : Nat) (hZ : Z < 8) : (eightL Z).length ≤ 6 ∧ (W.alloc eightO).cell? ⟨W.heap.size, Z, none⟩ = some (sv (eightL Z)) ∧ (#[sv [], sv [40], sv [41], sv [44], sv [42], sv [48], sv [97, 40, 42, 44, 42, 41], sv [101]] : Array Value)[Z]? = some (sv (eightL Z)) := by
  have h : Z = 0 ∨ Z = 1 ∨ Z = 2 ∨ Z = 3 ∨ Z = 4 ∨ Z = 5 ∨ Z = 6 ∨ Z = 7 := by omega
  rcases h with rfl | rfl | rfl | rfl | rfl | rfl | rfl | rfl <;> exact ⟨by decide, World.cell?_alloc_mark W _ _ _ _, rfl⟩
attribute [local irreducible] holds tabN tabV holdsV sameV followsV alwaysV matterV claimOk mayT mayV ctabV ctabN storyV storyOk storyN storyT ctermV ctermL wlp vals findF foundS foundG provesF tbF
set_option maxRecDepth 100000 in
set_option maxHeartbeats 2000000 in
theorem drawProofText (a : Value) (n : Nat) (w : World) (hr : RdBytes w w.heap.size a n) :
    Calls Tryd.prog 5 #[a] w (OutPQ w) := by
  obtain ⟨w1, hw1, hx1, hb1, hs1⟩ := Box.new w (.int .i64 0) (.slice none 0 0) 27
  have hr1 := RdBytes.up hr hb1
  go_enter Tryd.func5, Tryd.ntmps5
  go_upto_region 1 with fail
  rw [← hw1]
  clear hw1
  go_wp2_with fail
  refine (l20Open _ _ _ hr1).mono ?_
  rintro e w2 ⟨b, rfl, hb, hrd, hbel⟩
  have hs2 := hbel.size
  go_wp2_with fail
  refine (l20Proof 9 b 0 _ hrd (by omega) (by omega)).mono ?_
  rintro e w3 ⟨p, v, qs, g, cap, ms, fi, pv, sp, hp1, hp4, rfl, hst, hqs, hq7, hown, hi, hn, hpo, hs, hl, hf, hrd3, hg3⟩
  have hs3 := hg3.size
  have hx3 := (hx1.below hbel).grown hg3 (by intro e; cases e; omega)
  obtain ⟨po, pcap, rfl⟩ := own_len hpo
  have hb3 := below_of_grown (hb1.trans (hbel.mono (by omega))) (by omega) hg3
  obtain ⟨w6, e6, hx6, hg6⟩ := hx3.set (.int .i64 fi) (.slice po sp.length pcap)
  have hout : OutPQ w (.returned (.tuple #[.int .i64 p, v, .slice (some ⟨g, 0, none⟩) ms.length cap, .agg #[.int .i64 fi, .slice po sp.length pcap]])) w6 :=
    ⟨p, v, qs, g, cap, ms, fi, _, sp, hp1, hp4, rfl, (hst.row hg6 (by omega) (by omega)).mono (by omega) (by omega), hqs, hq7, own_mono (own_row hown hg6 (by omega)) (by omega), hi, hn, own_mono (own_row hpo hg6 (by omega)) (by omega), hs, hl, hf, below_own_set hb3 hg6⟩
  have E6 := Lib.hid e6
  have Hout := Lib.hid hout
  obtain ⟨y1, y2, y3, y4, y5⟩ := hx3
  clear hout e6 hst hown hpo hg3 hg6 hrd hrd3 hb3 hbel hb1 hx1 hr hr1 hs hi
  generalize sp.length = L at *
  generalize ms.length = ML at *
  go_wp2
  rw [← E6.out]
  obtain ⟨z1, z2, _⟩ := hx6
  exact bodyPost_ret (by simp [results, Tryd.results5, go_sem, z1, z2]) rfl Hout.out
set_option maxRecDepth 100000 in
set_option maxHeartbeats 16000000 in
theorem drawReadProof (a : Value) (n : Nat) (w : World) (hr : RdBytes w w.heap.size a n) :
    Calls Tryd.prog 11 #[a] w (OutPR w) := by
  go_enter Tryd.func11, Tryd.ntmps11
  go_wp2_with fail
  refine (l20Open _ _ _ hr).mono ?_
  rintro e w1 ⟨b, rfl, hb, hrd, hbel⟩
  have hbw := hrd.lt
  go_wp2_with fail
  refine (l20Proof 30 b 0 _ hrd (by omega) (by omega)).mono ?_
  rintro e w2 ⟨p, v, qs, g, cap, ms, fi, pv, sp, hp1, hp4, rfl, hst, hqs, hq7, hown, hi, hn, hpo, hs, hl, hf, hrd2, hg2⟩
  have hs2 := hg2.size
  have HG2 := Lib.hid hg2
  obtain ⟨po, pcap, rfl⟩ := own_len hpo
  obtain ⟨w3, hw3, p1, p2, hb3, hs3⟩ := new_two w2 (.int .i64 fi) (.slice po sp.length pcap) 27
  have hst2 := hst.rd
  have hmr2 := RdMarks.of_own hown hi
  have hsr2 := RdSplits.of_own hpo hs
  obtain ⟨qo, qcap, rfl⟩ := own_len hst.1
  have hs23 := hb3.size
  have hsp := specProofText p fi qs ms sp w3.heap.size _ _ _ w3 ((hst2.below hb3.block).mono hs23) ((hmr2.below hb3.block).mono hs23) ((hsr2.below hb3.block).mono hs23) (Nat.le_refl _)
  have hT := tbF_len (p := p) (s := qs.map (·.2)) (ms := ms) (sp := sp) (fi := fi)
  have Hsp := Lib.hid hsp
  have Hst := Lib.hid hst
  have Hown := Lib.hid hown
  have hG3 := grownBy_trans hg2 (grown_below hb3 (some b))
  have hrd3 := hrd2.below11 hb3
  have Hw3 := Lib.hid hw3
  have Hg23 := Lib.hid (grown_below hb3 (some b))
  clear hrd hst hown hpo hst2 hmr2 hsr2 hsp hg2 hrd2 hb3 hw3 hs
  generalize tbF p (qs.map (·.2)) ms sp fi = T at *
  generalize sp.length = SL at *
  go_upto_region 3 with fail
  rw [← Hw3.out]
  clear Hw3
  go_wp2_with fail
  refine Hsp.out.mono ?_
  rintro e w4 ⟨rfl, hb4⟩
  have hs4 := hb4.size
  have hG4 := grownBy_trans hG3 (grown_below hb4 (some b))
  have hrd4 := hrd3.below11 hb4
  have Hg24 := Lib.hid (grownBy_trans Hg23.out (grown_below hb4 (some b)))
  clear hb4 hG3 hrd3 p1 p2 Hsp Hg23
  go_wp2_with fail
  refine (pick 3 b _ w4 hrd4 (by omega) (by omega) (by omega)).mono ?_
  rintro e w5 ⟨y, hy0, hy1, rfl, hrd5, hg5⟩
  have hG5 := grownBy_trans hG4 hg5
  have Hg25 := Lib.hid (grownBy_trans Hg24.out hg5)
  clear hrd4 hG4 hg5 Hg24
  have Hfin : Hid (∀ (W : World) (s : List UInt8), w2.grownBy W (some b) → s.length ≤ 1000 → OutPR w (.returned (.tuple #[.int .i64 p, .slice qo qs.length qcap, .slice (some ⟨g, 0, none⟩) ms.length cap, sv s])) W) := fun W s hg hs =>
    ⟨p, _, qs, g, cap, ms, s, hp1, hp4, rfl, (Hst.out.row hg (by omega) (by omega)).mono hbel.size hbel.size, hqs, hq7, own_mono (own_row Hown.out hg (by omega)) hbel.size, hi, hn, hs, below_of_grown hbel hb (grownBy_trans HG2.out hg)⟩
  clear Hst Hown hi
  generalize qs.length = QL at *
  generalize ms.length = ML at *
  by_cases hy : y = 0
  · subst hy
    by_cases hT0 : 0 < T.length
    · have hT0' : (0 : Int) < (T.length : Int) := by omega
      go_wp2_with fail
      refine (pick _ _ _ _ hrd5 (by omega) (by omega) (by omega)).mono ?_
      rintro e w6 ⟨k, hk0, hk1, rfl, hrd6, hg6⟩
      have hG6 := grownBy_trans hG5 hg6
      have Hrd6 := Lib.hid hrd6
      have HG6 := Lib.hid (grownBy_trans Hg25.out hg6)
      clear hrd5 hG5 hg6 hrd6 hG6 Hg25
      obtain ⟨K, rfl⟩ : ∃ K : Nat, k = K := Int.eq_ofNat_of_zero_le hk0
      have hKT : K < T.length := by omega
      have k1 : (0 : Int) ≤ (K : Int) := by omega
      have k2 : (K : Int) ≤ (T.length : Int) := by omega
      have k3 : K ≤ T.length := by omega
      have hA := ext_take11 T K
      have hAl : (T.take K).length ≤ 80 := by rw [List.length_take]; omega
      generalize T.take K = A at *
      have hs6 := HG6.out.size
      have hbn : ¬ b = w6.heap.size := by omega
      have h60 : T.length ≤ 80 := by omega
      go_wp2_with fail
      go_region_with
        (first
          | (go_at_call 26
             refine (pick _ b _ _ (by exact (Hrd6.out.alloc eightO)) (by omega) (by omega) (by omega)).mono ?_
             rintro e w7 ⟨z, hz0, hz1, rfl, hrd7, hg7'⟩
             have hg7 : (w6.alloc eightO).grownBy w7 (some b) := by first | exact hg7' | exact grownBy_drew0 hg7' | exact grownBy_drewX hg7'
             go_must (clear hg7'
                      have HG7 := Lib.hid (grownBy_trans (only_alloc HG6.out eightO) hg7)
                      obtain ⟨Z, rfl⟩ : ∃ Z : Nat, z = Z := Int.eq_ofNat_of_zero_le hz0
                      have z1 : Z < 8 := by omega
                      have z2 : (Z : Int) < 8 := by omega
                      obtain ⟨hl1, hc6, hq⟩ := eight w6 Z z1
                      have hc7 : w7.cell? ⟨w6.heap.size, Z, none⟩ = some (sv (eightL Z)) := (hg7.cell_far ⟨w6.heap.size, Z, none⟩ (by simp) (by simp; omega)).trans hc6
                      have hn7 : w6.heap.size < w7.heap.size := by have := hg7.size; simp at this; omega
                      clear hc6 hq
                      have Hrd7 := Lib.hid hrd7
                      have hs7 := HG7.out.size
                      generalize hl : eightL Z = l at *
                      have hz1 : ¬ 9223372036854775807 < A.length + l.length := by omega
                      have HL := Lib.hid hl
                      clear hg7 hrd7 hl))
          | (go_at_call 26
             refine (pick _ b _ _ (by exact Hrd6.out) (by omega) (by omega) (by omega)).mono ?_
             rintro e w7 ⟨z, hz0, hz1, rfl, hrd7, hg7'⟩
             have hg7 : (w6).grownBy w7 (some b) := by first | exact hg7' | exact grownBy_drew0 hg7' | exact grownBy_drewX hg7'
             go_must (clear hg7'
                      have HG7 := Lib.hid (grownBy_trans (HG6.out) hg7)
                      obtain ⟨Z, rfl⟩ : ∃ Z : Nat, z = Z := Int.eq_ofNat_of_zero_le hz0
                      have z1 : Z < 8 := by omega
                      have z2 : (Z : Int) < 8 := by omega
                      obtain ⟨hl1, hc6, hq⟩ := eight w7 Z z1
                      have hn7 : b < w7.heap.size := by have := HG7.out.size; omega
                      have Hrd7 := Lib.hid hrd7
                      have hs7 := HG7.out.size
                      generalize hl : eightL Z = l at *
                      have hz1 : ¬ 9223372036854775807 < A.length + l.length := by omega
                      have HL := Lib.hid hl
                      clear hg7 hrd7 hl))
          | (go_at_call 26
             refine (pick _ b _ _ (by exact Hrd7.out) (by omega) (by omega) (by omega)).mono ?_
             rintro e w8 ⟨y2, hy20, hy21, rfl, hrd8, hg8'⟩
             have hg8 : (w7).grownBy w8 (some b) := by first | exact hg8' | exact grownBy_drew0 hg8' | exact grownBy_drewX hg8'
             have hc8 : w8.cell? ⟨w6.heap.size, Z, none⟩ = some (sv l) := (hg8.cell_far ⟨w6.heap.size, Z, none⟩ hn7 (by simp; omega)).trans hc7
             go_must (clear hg8'
                      have HG8 := Lib.hid (grownBy_trans (HG7.out) hg8)
                      obtain ⟨Y, rfl⟩ : ∃ Y : Nat, y2 = Y := Int.eq_ofNat_of_zero_le hy20
                      have y1 : IntKind.i64.wrap ((K : Int) + (Y : Int)) = ((K + Y : Nat) : Int) := by rw [IntWalk.i64_in _ (by omega)]; omega
                      have y2 : ((K + Y : Nat) : Int) ≤ (T.length : Int) := by omega
                      have y3 : (0 : Int) ≤ ((K + Y : Nat) : Int) := by omega
                      have y4 : K + Y ≤ T.length := by omega
                      have hD := ext_drop11 T (K + Y)
                      have hDl : (T.drop (K + Y)).length ≤ 80 := by rw [List.length_drop]; omega
                      generalize hY : K + Y = YY at *
                      generalize T.drop YY = D at *
                      have hz2 : ¬ 9223372036854775807 < A.length + l.length + D.length := by omega
                      clear hg8 hrd8))
          | (go_at_call 26
             refine (pick _ b _ _ (by exact (Hrd7.out.alloc eightO)) (by omega) (by omega) (by omega)).mono ?_
             rintro e w8 ⟨y2, hy20, hy21, rfl, hrd8, hg8'⟩
             have hg8 : (w7.alloc eightO).grownBy w8 (some b) := by first | exact hg8' | exact grownBy_drew0 hg8' | exact grownBy_drewX hg8'
             have hc8 : w8.cell? ⟨w7.heap.size, Z, none⟩ = some (sv l) := (hg8.cell_far ⟨w7.heap.size, Z, none⟩ (by simp) (by simp; omega)).trans hc6
             go_must (clear hg8'
                      have HG8 := Lib.hid (grownBy_trans (only_alloc HG7.out eightO) hg8)
                      obtain ⟨Y, rfl⟩ : ∃ Y : Nat, y2 = Y := Int.eq_ofNat_of_zero_le hy20
                      have y1 : IntKind.i64.wrap ((K : Int) + (Y : Int)) = ((K + Y : Nat) : Int) := by rw [IntWalk.i64_in _ (by omega)]; omega
                      have y2 : ((K + Y : Nat) : Int) ≤ (T.length : Int) := by omega
                      have y3 : (0 : Int) ≤ ((K + Y : Nat) : Int) := by omega
                      have y4 : K + Y ≤ T.length := by omega
                      have hD := ext_drop11 T (K + Y)
                      have hDl : (T.drop (K + Y)).length ≤ 80 := by rw [List.length_drop]; omega
                      generalize hY : K + Y = YY at *
                      generalize T.drop YY = D at *
                      have hz2 : ¬ 9223372036854775807 < A.length + l.length + D.length := by omega
                      clear hg8 hrd8))
          | (go_at_call 26
             refine (pick _ b _ _ (by exact Hrd7.out) (by omega) (by omega) (by omega)).mono ?_
             rintro e w8 ⟨y2, hy20, hy21, rfl, hrd8, hg8'⟩
             have hg8 : (w7).grownBy w8 (some b) := by first | exact hg8' | exact grownBy_drew0 hg8' | exact grownBy_drewX hg8'
             have hc8 : (w8.alloc eightO).cell? ⟨w8.heap.size, Z, none⟩ = some (sv l) := by rw [← HL.out]; exact (eight w8 Z z1).2.1
             go_must (clear hg8'
                      have HG8 := Lib.hid (grownBy_trans (HG7.out) hg8)
                      obtain ⟨Y, rfl⟩ : ∃ Y : Nat, y2 = Y := Int.eq_ofNat_of_zero_le hy20
                      have y1 : IntKind.i64.wrap ((K : Int) + (Y : Int)) = ((K + Y : Nat) : Int) := by rw [IntWalk.i64_in _ (by omega)]; omega
                      have y2 : ((K + Y : Nat) : Int) ≤ (T.length : Int) := by omega
                      have y3 : (0 : Int) ≤ ((K + Y : Nat) : Int) := by omega
                      have y4 : K + Y ≤ T.length := by omega
                      have hD := ext_drop11 T (K + Y)
                      have hDl : (T.drop (K + Y)).length ≤ 80 := by rw [List.length_drop]; omega
                      generalize hY : K + Y = YY at *
                      generalize T.drop YY = D at *
                      have hz2 : ¬ 9223372036854775807 < A.length + l.length + D.length := by omega
                      clear hg8 hrd8))
          | fail)
      all_goals
        have HR : Hid (∀ W, w2.grownBy W (some b) → OutPR w (.returned (.tuple #[.int .i64 p, .slice qo QL qcap, .slice (some ⟨g, 0, none⟩) ML cap, .string (⟨A.toArray⟩ ++ ⟨l.toArray⟩ ++ ⟨D.toArray⟩)])) W) := fun W hW => by
          rw [bs_append, bs_append]
          exact Hfin.out W (A ++ l ++ D) hW (by simp only [List.length_append]; omega)
        clear hbel
        go_wp2
        exact bodyPost_ret (v := .tuple #[.int .i64 p, .slice qo QL qcap, .slice (some ⟨g, 0, none⟩) ML cap, .string (⟨A.toArray⟩ ++ ⟨l.toArray⟩ ++ ⟨D.toArray⟩)]) (by simp [results, Tryd.results11, go_sem]) rfl (HR.out _ (by first | exact HG8.out | exact only_alloc HG8.out _))
    · have hT0' : ¬ (0 : Int) < (T.length : Int) := by omega
      have HR := Lib.hid (Hfin.out w5 T Hg25.out (by omega))
      clear hrd5 hG5 hbel
      go_wp2
      exact bodyPost_ret (v := .tuple #[.int .i64 p, .slice qo QL qcap, .slice (some ⟨g, 0, none⟩) ML cap, sv T]) (by simp [results, Tryd.results11, go_sem]) rfl HR.out
  · have HR := Lib.hid (Hfin.out w5 T Hg25.out (by omega))
    have hyb : (y == 0) = false := by rw [beq_eq_false_iff_ne]; exact hy
    clear hrd5 hG5 hbel
    go_wp2
    exact bodyPost_ret (v := .tuple #[.int .i64 p, .slice qo QL qcap, .slice (some ⟨g, 0, none⟩) ML cap, sv T]) (by simp [results, Tryd.results11, go_sem]) rfl HR.out
end Go.Proofs.YtilgkheefhobgaaDoor

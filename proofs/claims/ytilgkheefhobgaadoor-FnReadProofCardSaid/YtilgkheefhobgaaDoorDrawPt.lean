/- The reference model's draw of a proof: what is changed in it, and what is handed back. -/
import Derived.Test.YtilgkheefhobgaaDoorMerged23
import Derived.Test.YtilgkheefhobgaaDoorOneU
import Derived.Deep.RegionLaw
namespace Go.Proofs.YtilgkheefhobgaaDoor
open Go.RowKit Go.Joins
theorem found_small {p : Int} {qs : List QC} {ms : List (Int × Int)} : S64 (foundS (findF p (qs.map (·.2)) ms)) ∧ (foundS (findF p (qs.map (·.2)) ms)).length ≤ 15 ∧ I64 (foundG (findF p (qs.map (·.2)) ms)) := by
  cases h : findF p (qs.map (·.2)) ms with
  | none => exact ⟨fun s hs => (by cases hs), Nat.zero_le _, I64_small (by show (-100 : Int) ≤ 0; omega) (by show (0 : Int) ≤ 100; omega)⟩
  | some t =>
    have hp := find_proof h
    obtain ⟨h1, h2, h3⟩ := provesF_iff.1 hp
    have hl := (proofV_iff.1 h3).1
    unfold findF at h
    rw [h1, h2, if_pos (show (true && true) = true from rfl)] at h
    have hf := proves_fine h1 h2 (grow_ok _ _ _ h)
    rw [PT.flat_len] at hl
    exact ⟨flat_S64 t 0 hf (by omega), by show (t.flat 0).length ≤ 15; rw [PT.flat_len]; exact hl, I64_tgt hf (by omega)⟩
attribute [local irreducible] holds tabN tabV holdsV sameV followsV alwaysV matterV claimOk mayT mayV ctabV ctabN storyV storyOk storyN storyT ctermV ctermL wlp vals findF foundS foundG St11
set_option maxRecDepth 100000 in
set_option maxHeartbeats 16000000 in
theorem l20Proof (n b c : Nat) (w : World) (hrd : Rd w b c) (hn : n ≤ 1000) (hc : c ≤ 1000000) :
    Calls Tryd.prog 14 #[.pointer (some ⟨b, 0, none⟩), .int .i64 n] w (DrewPQ b (c + 800) w) := by
  obtain ⟨ii, hii, hz0, hz1, hz2⟩ := info_parts Tryd.infoSp
  have Si := Lib.hid hii; clear hii
  have Sz0 := Lib.hid hz0; clear hz0
  have Sz1 := Lib.hid hz1; clear hz1
  have Sz2 := Lib.hid hz2; clear hz2
  have hbw := hrd.lt
  obtain ⟨w1, hw1, hx1, hb1, hs1⟩ := Box.new w (.int .i64 0) (.slice none 0 0) 27
  have hz1 : w1.heap.size = w.heap.size + 1 := by rw [hw1]; simp
  have hrd1 := hrd.below11 hb1
  have Hg1 := Lib.hid (grown_below hb1 (some b))
  have HX1 := Lib.hid hx1
  clear hrd hb1 hx1
  go_enter Tryd.func14, Tryd.ntmps14
  go_upto_region 1 with fail
  rw [← hw1]
  clear hw1
  go_wp2_with fail
  refine (l20Proved b c w1 hrd1 (by omega)).mono ?_
  rintro e w2 ⟨p, v, qs, g, cap, ms, hp1, hp4, rfl, hst2, hqs, hq7, hown2, hi2, hn2, hrd2, hg2⟩
  have hs2 := hg2.size
  have hx2 := HX1.out.grown hg2 (by intro e; cases e; omega)
  have hG2 := grownBy_trans Hg1.out hg2
  rw [hz1] at hst2 hown2 hs2
  obtain ⟨qo, qcap, rfl⟩ := own_len hst2.1
  have hst2' := hst2.rd
  clear hrd1 hg2
  go_wp2_with fail
  refine (specFindProof p qs ms w2.heap.size _ _ w2 hst2' (RdMarks.of_own hown2 hi2) (Nat.le_refl _)).mono ?_
  rintro e w3 ⟨pv, rfl, hown3, hb3⟩
  obtain ⟨w4, hw4, hx4, hb4, hs4⟩ := Box.new w3 (.int .i64 (foundG (findF p (qs.map (·.2)) ms))) pv 27
  have hz4 : w4.heap.size = w3.heap.size + 1 := by rw [hw4]; simp
  have hs3 := hb3.size
  have hb24 := hb3.trans (hb4.mono hs3)
  obtain ⟨hs64, hsp15, hfi⟩ := found_small (p := p) (qs := qs) (ms := ms)
  have hown4 := own_below hown3 hb4
  have hown24 := own_below hown2 hb24
  have hgb := (hown2.lt g rfl)
  obtain ⟨po, pcap, rfl⟩ := own_len hown3
  have hst4 : St11 w w2 b w3.heap.size (.slice qo qs.length qcap) qs g cap ms (c + 700) (foundG (findF p (qs.map (·.2)) ms)) (.slice po (foundS (findF p (qs.map (·.2)) ms)).length pcap) (foundS (findF p (qs.map (·.2)) ms)) w4 := by
    refine st11_new hst2 (grown_below hb24 (some b)) hs2 hs3 hown24 (by omega) hown4 ?_ ?_ (hx2.below hb24) hx4 (hrd2.below11 hb24) (grownBy_trans hG2 (grown_below hb24 (some b))) hbw
    · intro e; have := (hown3.lt _ e).2; omega
    · intro e; have := (hown3.lt _ e).1; omega
  have HSt4 := Lib.hid hst4
  have Hw4 := Lib.hid hw4
  have Hst2 := Lib.hid hst2
  have Hmrd := Lib.hid hown24
  clear hw4 hst2' hst2 hown3 hown4 hown24 hb24 hb3 hb4 hx4 hx2 hG2 hrd2 hown2 hst4
  have hfs : foundS none = [] := by unfold foundS; rfl
  generalize hL : (foundS (findF p (qs.map (·.2)) ms)).length = L at *
  go_upto_region 3 with fail
  rw [← Hw4.out]
  clear Hw4
  generalize foundG (findF p (qs.map (·.2)) ms) = fi at *
  generalize foundS (findF p (qs.map (·.2)) ms) = sp at *
  cases ho : (findF p (qs.map (·.2)) ms).isSome with
  | true =>
    obtain ⟨W6, hW6⟩ : ∃ W6, W6 = w4 := ⟨_, rfl⟩
    rw [← hW6] at HSt4 ⊢
    clear hW6
    have hSt := HSt4.out
    have hsp : sp.length ≤ 15 := by omega
    clear HSt4 hsp15 ho Hst2 Hmrd
    have hs6 := hSt.size
    obtain ⟨_, _, hr6, _, _, _⟩ := hSt.boxes
    have HSt := Lib.hid hSt
    clear hSt
    go_wp2_with fail
    refine (odd n b _ W6 hr6 (by omega) (by omega)).mono ?_
    rintro e W7 ⟨o, rfl, hr7, hg7⟩
    have S7 := HSt.out.pick hg7 hr7
    have HS7 := Lib.hid S7
    clear S7 hr7 hg7 HSt hr6
    cases o with
    | false =>
      obtain ⟨wf, ef, hxf, hxg, hout⟩ := (HS7.out).done hp1 hp4 hqs hq7 hi2 hn2 hs64 (by omega) hfi
      have Ef := Lib.hid ef
      obtain ⟨g1, g2, _, _, _⟩ := hxg
      rw [ef] at g1 g2
      have G1 := Lib.hid g1
      have G2 := Lib.hid g2
      clear g1 g2
      have Hout : Hid (DrewPQ b (c + 800) w (.returned (.tuple #[.int .i64 p, .slice qo qs.length qcap, .slice (some ⟨g, 0, none⟩) ms.length cap, .agg #[.int .i64 fi, (.slice po L pcap)]])) wf) := by
        obtain ⟨a1, a2, a3, a4, a5, a6, a7, a8, a9, q1, q2, q3, q4, q5, q6, q7, q8, q9, qa, qb, qc, qd, qe, qf⟩ := hout
        exact ⟨a1, a2, a3, a4, a5, a6, a7, a8, a9, q1, q2, q3, q4, q5, q6, q7, q8, q9, qa, qb, qc, qd, qe.mono (by omega), qf⟩
      obtain ⟨b1, b2, _, _, _, _⟩ := (HS7.out).boxes
      obtain ⟨y1, y2, y3, y4, y5⟩ := b1
      obtain ⟨t1, t2, t3, t4, t5⟩ := b2
      clear ef hout
      go_wp2_with fail
      go_region_held3 (fun w' => w'.cell? ⟨w3.heap.size, 0, none⟩ = some (.int .i64 fi) ∧ w'.cell? ⟨w3.heap.size, 1, none⟩ = some (.slice po L pcap))
        (first | (refine ⟨?_, ?_⟩ <;> first | assumption | exact G1.out | exact G2.out | go_keep) | assumption | exact G1.out | exact G2.out)
        (fail)
      go_wp2
      rw [← Ef.out]
      obtain ⟨z1, z2, _⟩ := hxf
      exact bodyPost_ret (v := .tuple #[.int .i64 p, .slice qo qs.length qcap, .slice (some ⟨g, 0, none⟩) ms.length cap, .agg #[.int .i64 fi, (.slice po L pcap)]]) (by have z1' : wf.drew.cell? ⟨w.heap.size, 0, none⟩ = _ := z1; have z2' : wf.drew.cell? ⟨w.heap.size, 1, none⟩ = _ := z2; simp [results, Tryd.results14, go_sem, z1', z2']) rfl (Hout.out.below (drew_below11 wf))
    | true =>
      obtain ⟨_, _, hr7, _, _, _⟩ := HS7.out.boxes
      go_wp2_with fail
      refine (pick 4 b _ W7 hr7 (by omega) (by omega) (by omega)).mono ?_
      rintro e W8 ⟨x, hx0, hx4, rfl, hr8, hg8⟩
      have HS8 := Lib.hid (HS7.out.pick hg8 hr8)
      obtain ⟨d1, d2, _, d3, d4, d5⟩ := HS8.out.boxes
      clear hr7 hg8 HS7
      have h4 : x = 0 ∨ x = 1 ∨ x = 2 ∨ x = 3 := by omega
      clear hx0 hx4
      rcases h4 with rfl | rfl | rfl | rfl
      · go_wp2_with fail
        refine (pick 4 b _ W8 hr8 (by omega) (by omega) (by omega)).mono ?_
        rintro e W9 ⟨y, hy0, hy4, rfl, hr9, hg9⟩
        have HS9 := Lib.hid (HS8.out.pick hg9 hr9)
        have HS10 := Lib.hid (HS9.out.setFi (y - 3))
        have hwy : IntKind.i64.wrap (y - 3) = y - 3 := IntWalk.i64_in _ (by omega)
        have hI : I64 (y - 3) := I64_small (by omega) (by omega)
        obtain ⟨_, m2, _, _, _, _⟩ := HS9.out.boxes
        obtain ⟨t1, t2, t3, t4, t5⟩ := m2
        clear hr8 hr9 hg9 HS8 HS9 hy0 hy4 d1 d2 d5
        go_upto_region 17 with fail
        generalize W9.setCell ⟨w3.heap.size, 0, none⟩ (.int .i64 (y - 3)) = W10 at *
        clear t1 t2 t3 t4 t5
        generalize y - 3 = z at *
        obtain ⟨wf, ef, hxf, hxg, hout⟩ := (HS10.out).done hp1 hp4 hqs hq7 hi2 hn2 hs64 (by omega) hI
        have Ef := Lib.hid ef
        obtain ⟨g1, g2, _, _, _⟩ := hxg
        rw [ef] at g1 g2
        have G1 := Lib.hid g1
        have G2 := Lib.hid g2
        clear g1 g2
        have Hout : Hid (DrewPQ b (c + 800) w (.returned (.tuple #[.int .i64 p, .slice qo qs.length qcap, .slice (some ⟨g, 0, none⟩) ms.length cap, .agg #[.int .i64 z, (.slice po L pcap)]])) wf) := by
          obtain ⟨a1, a2, a3, a4, a5, a6, a7, a8, a9, q1, q2, q3, q4, q5, q6, q7, q8, q9, qa, qb, qc, qd, qe, qf⟩ := hout
          exact ⟨a1, a2, a3, a4, a5, a6, a7, a8, a9, q1, q2, q3, q4, q5, q6, q7, q8, q9, qa, qb, qc, qd, qe.mono (by omega), qf⟩
        obtain ⟨b1, b2, _, _, _, _⟩ := (HS10.out).boxes
        obtain ⟨y1, y2, y3, y4, y5⟩ := b1
        obtain ⟨t1, t2, t3, t4, t5⟩ := b2
        clear ef hout
        go_wp2_with fail
        go_region_held3 (fun w' => w'.cell? ⟨w3.heap.size, 0, none⟩ = some (.int .i64 z) ∧ w'.cell? ⟨w3.heap.size, 1, none⟩ = some (.slice po L pcap))
          (first | (refine ⟨?_, ?_⟩ <;> first | assumption | exact G1.out | exact G2.out | go_keep) | assumption | exact G1.out | exact G2.out)
          (fail)
        go_wp2
        rw [← Ef.out]
        obtain ⟨z1, z2, _⟩ := hxf
        exact bodyPost_ret (v := .tuple #[.int .i64 p, .slice qo qs.length qcap, .slice (some ⟨g, 0, none⟩) ms.length cap, .agg #[.int .i64 z, (.slice po L pcap)]]) (by have z1' : wf.drew.cell? ⟨w.heap.size, 0, none⟩ = _ := z1; have z2' : wf.drew.cell? ⟨w.heap.size, 1, none⟩ = _ := z2; simp [results, Tryd.results14, go_sem, z1', z2']) rfl (Hout.out.below (drew_below11 wf))
      · obtain ⟨t1, t2, t3, t4, t5⟩ := d2
        have hs8 := HS8.out.size
        go_wp2_with fail
        go_region_law
          (first
            | (refine app_own (by rfl) (.tmp 62) (.tmp 66) TSl TSp w2.heap.size 3 24 (.agg #[.int .i64 0, .int .i64 0, .int .i64 0]) (by rfl) Tryd.underlying25 Si.out Sz0.out Sz1.out Sz2.out rfl (by decide) (by rfl) (by rfl) (by first | exact Hown9.out.alloc _ | exact own_drewU (Hown9.out.alloc _) _) (m := 1) (news := scells [(y, -1, -2)]) (by rw [scells_length]; rfl) (by first | exact news3 _ _ rfl _ _ _) (scells_one _) (by unfold maxLen; omega) (by omega) (by simp; omega) ?_
               go_must (intro v10 W10 hown10 hgr10 hat10
                        have hgr : (W9.alloc (.cells #[.int .i64 y, .int .i64 (-1), .int .i64 (-2)] TSp)).grownBy W10 (Value.slice po L pcap).ownBlock := by first | exact hgr10 | exact grownBy_drew0 hgr10 | exact grownBy_drewX hgr10
                        obtain ⟨fo, fc, hv10⟩ := own_len hown10
                        subst hv10
                        have hset := HS9.out.setSp (sp' := sp ++ [(y, -1, -2)]) hgr (by rw [scells_append, List.length_append, hL]; exact hown10) hat10
                        obtain ⟨hst10, hbox10⟩ := hset
                        obtain ⟨p1, p2, p3, p4, p5⟩ := hbox10
                        have HS10 := Lib.hid hst10
                        clear hown10 hgr10 hat10 hgr hst10 q1 q2 q3 q4 q5))
            | (go_simp
               go_at_call 26
               refine (pick 4 b _ _ (by exact hr8) (by omega) (by omega) (by omega)).mono ?_
               rintro e W9 ⟨y, hy0, hy4, rfl, hr9, hg9'⟩
               have hg9 : W8.grownBy W9 (some b) := by first | exact hg9' | exact grownBy_drew0 hg9' | exact grownBy_drewX hg9'
               go_must (have HS9 := Lib.hid (HS8.out.pick hg9 hr9)
                        obtain ⟨_, m2, _, _, _, m5⟩ := HS9.out.boxes
                        obtain ⟨q1, q2, q3, q4, q5⟩ := m2
                        rw [hL] at m5
                        have Hown9 := Lib.hid m5
                        have hIy : Hid (I64 y) := I64_small (by omega) (by omega)
                        have hs9 := HS9.out.size
                        have hA9 : w2.heap.size ≤ W9.heap.size := by omega
                        clear hg9 hg9' hr9 m5 hy0 hy4))
            | fail)
        all_goals
          have HS64 : Hid (S64 (sp ++ [(y, -1, -2)])) := S64_snoc hs64 hIy.out (by show I64 (-1 : Int); exact I64_small (by omega) (by omega)) (by show I64 (-2 : Int); exact I64_small (by omega) (by omega))
          have Hsp16 : Hid ((sp ++ [(y, (-1 : Int), (-2 : Int))]).length ≤ 16) := by unfold Hid; rw [List.length_append]; simp; omega
          generalize W10.setCell ⟨w3.heap.size, 1, none⟩ (.slice fo (L + 1) fc) = W11 at *
          clear p1 p2 p3 p4 p5 t1 t2 t3 t4 t5
          generalize sp ++ [(y, (-1 : Int), (-2 : Int))] = sp11 at *
          obtain ⟨wf, ef, hxf, hxg, hout⟩ := (HS10.out).done hp1 hp4 hqs hq7 hi2 hn2 HS64.out Hsp16.out hfi
          have Ef := Lib.hid ef
          obtain ⟨g1, g2, _, _, _⟩ := hxg
          rw [ef] at g1 g2
          have G1 := Lib.hid g1
          have G2 := Lib.hid g2
          clear g1 g2
          have Hout : Hid (DrewPQ b (c + 800) w (.returned (.tuple #[.int .i64 p, .slice qo qs.length qcap, .slice (some ⟨g, 0, none⟩) ms.length cap, .agg #[.int .i64 fi, (.slice fo (L + 1) fc)]])) wf) := by
            obtain ⟨a1, a2, a3, a4, a5, a6, a7, a8, a9, q1, q2, q3, q4, q5, q6, q7, q8, q9, qa, qb, qc, qd, qe, qf⟩ := hout
            exact ⟨a1, a2, a3, a4, a5, a6, a7, a8, a9, q1, q2, q3, q4, q5, q6, q7, q8, q9, qa, qb, qc, qd, qe.mono (by omega), qf⟩
          obtain ⟨b1, b2, _, _, _, _⟩ := (HS10.out).boxes
          obtain ⟨y1, y2, y3, y4, y5⟩ := b1
          obtain ⟨t1, t2, t3, t4, t5⟩ := b2
          clear ef hout
          go_wp2_with fail
          go_region_held3 (fun w' => w'.cell? ⟨w3.heap.size, 0, none⟩ = some (.int .i64 fi) ∧ w'.cell? ⟨w3.heap.size, 1, none⟩ = some (.slice fo (L + 1) fc))
            (first | (refine ⟨?_, ?_⟩ <;> first | assumption | exact G1.out | exact G2.out | go_keep) | assumption | exact G1.out | exact G2.out)
            (fail)
          go_wp2
          rw [← Ef.out]
          obtain ⟨z1, z2, _⟩ := hxf
          exact bodyPost_ret (v := .tuple #[.int .i64 p, .slice qo qs.length qcap, .slice (some ⟨g, 0, none⟩) ms.length cap, .agg #[.int .i64 fi, (.slice fo (L + 1) fc)]]) (by have z1' : wf.drew.cell? ⟨w.heap.size, 0, none⟩ = _ := z1; have z2' : wf.drew.cell? ⟨w.heap.size, 1, none⟩ = _ := z2; simp [results, Tryd.results14, go_sem, z1', z2']) rfl (Hout.out.below (drew_below11 wf))
      · by_cases hL0 : L = 0
        · obtain ⟨t1, t2, t3, t4, t5⟩ := d2
          have hL1 : ¬ (0 : Int) < (L : Int) := by omega
          have hL2 : ¬ 0 < L := by omega
          clear hL0
          go_upto_region 17 with fail
          clear t1 t2 t3 t4 t5 d1 d5 hL1 hL2
          obtain ⟨wf, ef, hxf, hxg, hout⟩ := (HS8.out).done hp1 hp4 hqs hq7 hi2 hn2 hs64 (by omega) hfi
          have Ef := Lib.hid ef
          obtain ⟨g1, g2, _, _, _⟩ := hxg
          rw [ef] at g1 g2
          have G1 := Lib.hid g1
          have G2 := Lib.hid g2
          clear g1 g2
          have Hout : Hid (DrewPQ b (c + 800) w (.returned (.tuple #[.int .i64 p, .slice qo qs.length qcap, .slice (some ⟨g, 0, none⟩) ms.length cap, .agg #[.int .i64 fi, (.slice po L pcap)]])) wf) := by
            obtain ⟨a1, a2, a3, a4, a5, a6, a7, a8, a9, q1, q2, q3, q4, q5, q6, q7, q8, q9, qa, qb, qc, qd, qe, qf⟩ := hout
            exact ⟨a1, a2, a3, a4, a5, a6, a7, a8, a9, q1, q2, q3, q4, q5, q6, q7, q8, q9, qa, qb, qc, qd, qe.mono (by omega), qf⟩
          obtain ⟨b1, b2, _, _, _, _⟩ := (HS8.out).boxes
          obtain ⟨y1, y2, y3, y4, y5⟩ := b1
          obtain ⟨t1, t2, t3, t4, t5⟩ := b2
          clear ef hout
          go_wp2_with fail
          go_region_held3 (fun w' => w'.cell? ⟨w3.heap.size, 0, none⟩ = some (.int .i64 fi) ∧ w'.cell? ⟨w3.heap.size, 1, none⟩ = some (.slice po L pcap))
            (first | (refine ⟨?_, ?_⟩ <;> first | assumption | exact G1.out | exact G2.out | go_keep) | assumption | exact G1.out | exact G2.out)
            (fail)
          go_wp2
          rw [← Ef.out]
          obtain ⟨z1, z2, _⟩ := hxf
          exact bodyPost_ret (v := .tuple #[.int .i64 p, .slice qo qs.length qcap, .slice (some ⟨g, 0, none⟩) ms.length cap, .agg #[.int .i64 fi, (.slice po L pcap)]]) (by have z1' : wf.drew.cell? ⟨w.heap.size, 0, none⟩ = _ := z1; have z2' : wf.drew.cell? ⟨w.heap.size, 1, none⟩ = _ := z2; simp [results, Tryd.results14, go_sem, z1', z2']) rfl (Hout.out.below (drew_below11 wf))
        · rw [hL] at d5
          obtain ⟨gs, rfl⟩ : ∃ gs, po = some ⟨gs, 0, none⟩ := by
            rcases d5.2 with ⟨_, h0⟩ | ⟨gs, c12, cur, h, _⟩
            · omega
            · cases h; exact ⟨gs, rfl⟩
          have hlc : L ≤ pcap := by
            rcases d5.2 with ⟨h, _⟩ | ⟨_, _, cur, h, _, _, h2, _⟩
            · cases h
            · cases h; exact h2
          obtain ⟨t1, t2, t3, t4, t5⟩ := d2
          have hL1 : (0 : Int) < (L : Int) := by omega
          have hL2 : 0 < L := by omega
          clear hL0 d5 d1
          go_upto_region 16 with fail
          go_region_law
            (first
              | (go_simp
                 go_at_call 26
                 (with_reducible refine (pick (L : Int) b (c + 700 + 1 + 1) _ ?_ ?_ ?_ ?_).mono ?_)
                 · exact hr8
                 · omega
                 · omega
                 · omega
                 rintro e W9 ⟨y, hy0, hyL, rfl, hr9, hg9'⟩
                 have hg9 : W8.grownBy W9 (some b) := by first | exact hg9' | exact grownBy_drew0 hg9' | exact grownBy_drewX hg9'
                 go_must (have HS9 := Lib.hid (HS8.out.pick hg9 hr9)
                          obtain ⟨_, m2, _, _, _, _⟩ := HS9.out.boxes
                          obtain ⟨q1, q2, q3, q4, q5⟩ := m2
                          obtain ⟨J, rfl⟩ : ∃ J : Nat, y = J := Int.eq_ofNat_of_zero_le hy0
                          clear hg9 hg9' hr8 t1 t2 t3 t4 t5))
              | (go_simp
                 go_at_call 26
                 (with_reducible refine (pick 5 b (c + 700 + 1 + 1 + 1) _ ?_ ?_ ?_ ?_).mono ?_)
                 · exact hr9
                 · omega
                 · omega
                 · omega
                 rintro e W10 ⟨z, hz0, hz5, rfl, hr10, hg10'⟩
                 have hg10 : W9.grownBy W10 (some b) := by first | exact hg10' | exact grownBy_drew0 hg10' | exact grownBy_drewX hg10'
                 go_must (have HS10 := Lib.hid (HS9.out.pick hg10 hr10)
                          obtain ⟨_, m2, _, _, _, m5⟩ := HS10.out.boxes
                          obtain ⟨p1, p2, p3, p4, p5⟩ := m2
                          have HJ : Hid (J < L) := by unfold Hid; omega
                          obtain ⟨sp11, hsp11, hs11, hst11⟩ := HS10.out.setWho hL hs64 HJ.out (z := z) (I64_small (by omega) (by omega))
                          have HS11 := Lib.hid hst11
                          have Hs11 := Lib.hid hs11
                          have Hl11 := Lib.hid (show sp11.length ≤ 16 by omega)
                          rw [hL] at m5
                          obtain ⟨k1, _, _⟩ := scells_get sp J (by omega)
                          have kc := (m5.cellAt (J * 3) (by omega)).trans k1
                          have kf := m5.frozenAt (J * 3)
                          generalize (sp.getD J sp0).1 = kx at *
                          clear hg10 hg10' hr9 hr10 m5 k1 hst11 hs11 hsp11 q1 q2 q3 q4 q5))
              | fail)
          all_goals
            generalize W10.setCell ⟨gs, J * 3, none⟩ (.int .i64 z) = W11 at *
            clear p1 p2 p3 p4 p5 kc kf
            obtain ⟨wf, ef, hxf, hxg, hout⟩ := (HS11.out).done hp1 hp4 hqs hq7 hi2 hn2 Hs11.out Hl11.out hfi
            have Ef := Lib.hid ef
            obtain ⟨g1, g2, _, _, _⟩ := hxg
            rw [ef] at g1 g2
            have G1 := Lib.hid g1
            have G2 := Lib.hid g2
            clear g1 g2
            have Hout : Hid (DrewPQ b (c + 800) w (.returned (.tuple #[.int .i64 p, .slice qo qs.length qcap, .slice (some ⟨g, 0, none⟩) ms.length cap, .agg #[.int .i64 fi, (.slice (some ⟨gs, 0, none⟩) L pcap)]])) wf) := by
              obtain ⟨a1, a2, a3, a4, a5, a6, a7, a8, a9, q1, q2, q3, q4, q5, q6, q7, q8, q9, qa, qb, qc, qd, qe, qf⟩ := hout
              exact ⟨a1, a2, a3, a4, a5, a6, a7, a8, a9, q1, q2, q3, q4, q5, q6, q7, q8, q9, qa, qb, qc, qd, qe.mono (by omega), qf⟩
            obtain ⟨b1, b2, _, _, _, _⟩ := (HS11.out).boxes
            obtain ⟨y1, y2, y3, y4, y5⟩ := b1
            obtain ⟨t1, t2, t3, t4, t5⟩ := b2
            clear ef hout
            go_wp2_with fail
            go_region_held3 (fun w' => w'.cell? ⟨w3.heap.size, 0, none⟩ = some (.int .i64 fi) ∧ w'.cell? ⟨w3.heap.size, 1, none⟩ = some (.slice (some ⟨gs, 0, none⟩) L pcap))
              (first | (refine ⟨?_, ?_⟩ <;> first | assumption | exact G1.out | exact G2.out | go_keep) | assumption | exact G1.out | exact G2.out)
              (fail)
            go_wp2
            rw [← Ef.out]
            obtain ⟨z1, z2, _⟩ := hxf
            exact bodyPost_ret (v := .tuple #[.int .i64 p, .slice qo qs.length qcap, .slice (some ⟨g, 0, none⟩) ms.length cap, .agg #[.int .i64 fi, (.slice (some ⟨gs, 0, none⟩) L pcap)]]) (by have z1' : wf.drew.cell? ⟨w.heap.size, 0, none⟩ = _ := z1; have z2' : wf.drew.cell? ⟨w.heap.size, 1, none⟩ = _ := z2; simp [results, Tryd.results14, go_sem, z1', z2']) rfl (Hout.out.below (drew_below11 wf))
      · by_cases hL0 : L = 0
        · obtain ⟨t1, t2, t3, t4, t5⟩ := d2
          have hL1 : ¬ (0 : Int) < (L : Int) := by omega
          have hL2 : ¬ 0 < L := by omega
          clear hL0
          go_upto_region 17 with fail
          clear t1 t2 t3 t4 t5 d1 d5 hL1 hL2
          obtain ⟨wf, ef, hxf, hxg, hout⟩ := (HS8.out).done hp1 hp4 hqs hq7 hi2 hn2 hs64 (by omega) hfi
          have Ef := Lib.hid ef
          obtain ⟨g1, g2, _, _, _⟩ := hxg
          rw [ef] at g1 g2
          have G1 := Lib.hid g1
          have G2 := Lib.hid g2
          clear g1 g2
          have Hout : Hid (DrewPQ b (c + 800) w (.returned (.tuple #[.int .i64 p, .slice qo qs.length qcap, .slice (some ⟨g, 0, none⟩) ms.length cap, .agg #[.int .i64 fi, (.slice po L pcap)]])) wf) := by
            obtain ⟨a1, a2, a3, a4, a5, a6, a7, a8, a9, q1, q2, q3, q4, q5, q6, q7, q8, q9, qa, qb, qc, qd, qe, qf⟩ := hout
            exact ⟨a1, a2, a3, a4, a5, a6, a7, a8, a9, q1, q2, q3, q4, q5, q6, q7, q8, q9, qa, qb, qc, qd, qe.mono (by omega), qf⟩
          obtain ⟨b1, b2, _, _, _, _⟩ := (HS8.out).boxes
          obtain ⟨y1, y2, y3, y4, y5⟩ := b1
          obtain ⟨t1, t2, t3, t4, t5⟩ := b2
          clear ef hout
          go_wp2_with fail
          go_region_held3 (fun w' => w'.cell? ⟨w3.heap.size, 0, none⟩ = some (.int .i64 fi) ∧ w'.cell? ⟨w3.heap.size, 1, none⟩ = some (.slice po L pcap))
            (first | (refine ⟨?_, ?_⟩ <;> first | assumption | exact G1.out | exact G2.out | go_keep) | assumption | exact G1.out | exact G2.out)
            (fail)
          go_wp2
          rw [← Ef.out]
          obtain ⟨z1, z2, _⟩ := hxf
          exact bodyPost_ret (v := .tuple #[.int .i64 p, .slice qo qs.length qcap, .slice (some ⟨g, 0, none⟩) ms.length cap, .agg #[.int .i64 fi, (.slice po L pcap)]]) (by have z1' : wf.drew.cell? ⟨w.heap.size, 0, none⟩ = _ := z1; have z2' : wf.drew.cell? ⟨w.heap.size, 1, none⟩ = _ := z2; simp [results, Tryd.results14, go_sem, z1', z2']) rfl (Hout.out.below (drew_below11 wf))
        · rw [hL] at d5
          obtain ⟨gs, rfl⟩ : ∃ gs, po = some ⟨gs, 0, none⟩ := by
            rcases d5.2 with ⟨_, h0⟩ | ⟨gs, c12, cur, h, _⟩
            · omega
            · cases h; exact ⟨gs, rfl⟩
          have hlc : L ≤ pcap := by
            rcases d5.2 with ⟨h, _⟩ | ⟨_, _, cur, h, _, _, h2, _⟩
            · cases h
            · cases h; exact h2
          obtain ⟨t1, t2, t3, t4, t5⟩ := d2
          have hL1 : (0 : Int) < (L : Int) := by omega
          have hL2 : 0 < L := by omega
          clear hL0 d5 d1
          go_upto_region 9 with fail
          go_region_law
            (first
              | (go_simp
                 go_at_call 26
                 (with_reducible refine (pick 5 b (c + 700 + 1 + 1) _ ?_ ?_ ?_ ?_).mono ?_)
                 · exact hr8
                 · omega
                 · omega
                 · omega
                 rintro e W10 ⟨z, hz0, hz5, rfl, hr10, hg10'⟩
                 have hg10 : W8.grownBy W10 (some b) := by first | exact hg10' | exact grownBy_drew0 hg10' | exact grownBy_drewX hg10'
                 go_must (have HS10 := Lib.hid (HS8.out.pick hg10 hr10)
                          obtain ⟨_, m2, _, _, _, m5⟩ := HS10.out.boxes
                          obtain ⟨p1, p2, p3, p4, p5⟩ := m2
                          have hwz : IntKind.i64.wrap (z - 3) = z - 3 := IntWalk.i64_in _ (by omega)
                          obtain ⟨sp11, hsp11, hs11, hst11⟩ := HS10.out.setNo hL hs64 hL2 (z := z - 3) (I64_small (by omega) (by omega))
                          have HS11 := Lib.hid hst11
                          have Hs11 := Lib.hid hs11
                          have Hl11 := Lib.hid (show sp11.length ≤ 16 by omega)
                          rw [hL] at m5
                          obtain ⟨_, k1, _⟩ := scells_get sp 0 (by omega)
                          have kc := (m5.cellAt (0 * 3 + 1) (by omega)).trans k1
                          have kf := m5.frozenAt (0 * 3 + 1)
                          rw [show 0 * 3 + 1 = 1 from rfl] at kc kf
                          generalize (sp.getD 0 sp0).2.1 = kx at *
                          clear hg10 hg10' hr8 hr10 m5 k1 hst11 hs11 hsp11 hz0 hz5 t1 t2 t3 t4 t5))
              | fail)
          all_goals
            rw [show 0 * 3 + 1 = 1 from rfl] at HS11
            generalize W10.setCell ⟨gs, 1, none⟩ (.int .i64 (z - 3)) = W11 at *
            clear p1 p2 p3 p4 p5 kc kf
            obtain ⟨wf, ef, hxf, hxg, hout⟩ := (HS11.out).done hp1 hp4 hqs hq7 hi2 hn2 Hs11.out Hl11.out hfi
            have Ef := Lib.hid ef
            obtain ⟨g1, g2, _, _, _⟩ := hxg
            rw [ef] at g1 g2
            have G1 := Lib.hid g1
            have G2 := Lib.hid g2
            clear g1 g2
            have Hout : Hid (DrewPQ b (c + 800) w (.returned (.tuple #[.int .i64 p, .slice qo qs.length qcap, .slice (some ⟨g, 0, none⟩) ms.length cap, .agg #[.int .i64 fi, (.slice (some ⟨gs, 0, none⟩) L pcap)]])) wf) := by
              obtain ⟨a1, a2, a3, a4, a5, a6, a7, a8, a9, q1, q2, q3, q4, q5, q6, q7, q8, q9, qa, qb, qc, qd, qe, qf⟩ := hout
              exact ⟨a1, a2, a3, a4, a5, a6, a7, a8, a9, q1, q2, q3, q4, q5, q6, q7, q8, q9, qa, qb, qc, qd, qe.mono (by omega), qf⟩
            obtain ⟨b1, b2, _, _, _, _⟩ := (HS11.out).boxes
            obtain ⟨y1, y2, y3, y4, y5⟩ := b1
            obtain ⟨t1, t2, t3, t4, t5⟩ := b2
            clear ef hout
            go_wp2_with fail
            go_region_held3 (fun w' => w'.cell? ⟨w3.heap.size, 0, none⟩ = some (.int .i64 fi) ∧ w'.cell? ⟨w3.heap.size, 1, none⟩ = some (.slice (some ⟨gs, 0, none⟩) L pcap))
              (first | (refine ⟨?_, ?_⟩ <;> first | assumption | exact G1.out | exact G2.out | go_keep) | assumption | exact G1.out | exact G2.out)
              (fail)
            go_wp2
            rw [← Ef.out]
            obtain ⟨z1, z2, _⟩ := hxf
            exact bodyPost_ret (v := .tuple #[.int .i64 p, .slice qo qs.length qcap, .slice (some ⟨g, 0, none⟩) ms.length cap, .agg #[.int .i64 fi, (.slice (some ⟨gs, 0, none⟩) L pcap)]]) (by have z1' : wf.drew.cell? ⟨w.heap.size, 0, none⟩ = _ := z1; have z2' : wf.drew.cell? ⟨w.heap.size, 1, none⟩ = _ := z2; simp [results, Tryd.results14, go_sem, z1', z2']) rfl (Hout.out.below (drew_below11 wf))
  | false =>
    clear hz4
    have hSt4 := HSt4.out
    obtain ⟨W5, hW5⟩ : ∃ W5, W5 = w4.alloc (.cells #[.int .i64 1, .int .i64 0] TM) := ⟨_, rfl⟩
    have hb5 : Below w4.heap.size w4 W5 := by rw [hW5]; exact (Below.refl _ _).alloc (Nat.le_refl _) _
    have hm5 : RdMarks W5 W5.heap.size (.slice (some ⟨w4.heap.size, 0, none⟩) 1 1) [(1, 0)] := by
      rw [hW5]; exact RdMarks.of_own (own_new w4 w4.heap.size 1 0 (Nat.le_refl _)) (I64s_one (I64_small (by omega) (by omega)) (I64_small (by omega) (by omega)))
    have hst5 : RdStory W5 W5.heap.size (.slice qo qs.length qcap) qs := (hSt4.story.below hb5).rd
    have hfnd := specFindProof p qs [(1, 0)] W5.heap.size _ _ W5 hst5 hm5 (Nat.le_refl _)
    have Hfnd := Lib.hid hfnd
    have HW5 := Lib.hid hW5
    obtain ⟨_, m2, _, _, _, _⟩ := hSt4.boxes
    clear hb5 hm5 hst5 hfnd ho Hst2 Hmrd hs64 hsp15 hfi hW5
    obtain ⟨t1, t2, t3, t4, t5⟩ := m2
    go_wp2_with fail
    rw [← HW5.out]
    refine Hfnd.out.mono ?_
    rintro e W6 ⟨pv2, rfl, hown6, hb6⟩
    obtain ⟨hs64', hsp15', hfi'⟩ := found_small (p := p) (qs := qs) (ms := [(1, 0)])
    obtain ⟨hst7, hbx7⟩ := hSt4.redo HW5.out hb6 hown6 (foundG (findF p (qs.map (·.2)) [(1, 0)]))
    obtain ⟨po2, pcap2, rfl⟩ := own_len hown6
    obtain ⟨p1, p2, p3, p4, p5⟩ := hbx7
    have HSt7 := Lib.hid hst7
    clear hst7 hown6 hb6 t1 t2 t3 t4 t5 hSt4 HSt4 Hfnd HW5 hL
    generalize hL : (foundS (findF p (qs.map (·.2)) [(1, 0)])).length = L2 at *
    generalize foundG (findF p (qs.map (·.2)) [(1, 0)]) = fi2 at *
    generalize foundS (findF p (qs.map (·.2)) [(1, 0)]) = sp2 at *
    go_upto_region 6 with fail
    generalize (W6.setCell ⟨w3.heap.size, 0, none⟩ (.int .i64 fi2)).setCell ⟨w3.heap.size, 1, none⟩ (.slice po2 L2 pcap2) = W16 at *
    have hSt := HSt7.out
    have hsp : sp2.length ≤ 15 := by omega
    have hI1 : I64s [((1 : Int), (0 : Int))] := I64s_one (I64_small (by omega) (by omega)) (I64_small (by omega) (by omega))
    have hn1 : [((1 : Int), (0 : Int))].length ≤ 20 := by simp
    clear p1 p2 p3 p4 p5 HSt7
    have hs6 := hSt.size
    obtain ⟨_, _, hr6, _, _, _⟩ := hSt.boxes
    have HSt := Lib.hid hSt
    clear hSt
    go_wp2_with fail
    refine (odd n b _ W16 hr6 (by omega) (by omega)).mono ?_
    rintro e W7 ⟨o, rfl, hr7, hg7⟩
    have S7 := HSt.out.pick hg7 hr7
    have HS7 := Lib.hid S7
    clear S7 hr7 hg7 HSt hr6
    cases o with
    | false =>
      obtain ⟨wf, ef, hxf, hxg, hout⟩ := (HS7.out).done hp1 hp4 hqs hq7 hI1 hn1 hs64' (by omega) hfi'
      have Ef := Lib.hid ef
      obtain ⟨g1, g2, _, _, _⟩ := hxg
      rw [ef] at g1 g2
      have G1 := Lib.hid g1
      have G2 := Lib.hid g2
      clear g1 g2
      have Hout : Hid (DrewPQ b (c + 800) w (.returned (.tuple #[.int .i64 p, .slice qo qs.length qcap, .slice (some ⟨w4.heap.size, 0, none⟩) 1 1, .agg #[.int .i64 fi2, (.slice po2 L2 pcap2)]])) wf) := by
        obtain ⟨a1, a2, a3, a4, a5, a6, a7, a8, a9, q1, q2, q3, q4, q5, q6, q7, q8, q9, qa, qb, qc, qd, qe, qf⟩ := hout
        exact ⟨a1, a2, a3, a4, a5, a6, a7, a8, a9, q1, q2, q3, q4, q5, q6, q7, q8, q9, qa, qb, qc, qd, qe.mono (by omega), qf⟩
      obtain ⟨b1, b2, _, _, _, _⟩ := (HS7.out).boxes
      obtain ⟨y1, y2, y3, y4, y5⟩ := b1
      obtain ⟨t1, t2, t3, t4, t5⟩ := b2
      clear ef hout
      go_wp2_with fail
      go_region_held3 (fun w' => w'.cell? ⟨w3.heap.size, 0, none⟩ = some (.int .i64 fi2) ∧ w'.cell? ⟨w3.heap.size, 1, none⟩ = some (.slice po2 L2 pcap2))
        (first | (refine ⟨?_, ?_⟩ <;> first | assumption | exact G1.out | exact G2.out | go_keep) | assumption | exact G1.out | exact G2.out)
        (fail)
      go_wp2
      rw [← Ef.out]
      obtain ⟨z1, z2, _⟩ := hxf
      exact bodyPost_ret (v := .tuple #[.int .i64 p, .slice qo qs.length qcap, .slice (some ⟨w4.heap.size, 0, none⟩) 1 1, .agg #[.int .i64 fi2, (.slice po2 L2 pcap2)]]) (by have z1' : wf.drew.cell? ⟨w.heap.size, 0, none⟩ = _ := z1; have z2' : wf.drew.cell? ⟨w.heap.size, 1, none⟩ = _ := z2; simp [results, Tryd.results14, go_sem, z1', z2']) rfl (Hout.out.below (drew_below11 wf))
    | true =>
      obtain ⟨_, _, hr7, _, _, _⟩ := HS7.out.boxes
      go_wp2_with fail
      refine (pick 4 b _ W7 hr7 (by omega) (by omega) (by omega)).mono ?_
      rintro e W8 ⟨x, hx0, hx4, rfl, hr8, hg8⟩
      have HS8 := Lib.hid (HS7.out.pick hg8 hr8)
      obtain ⟨d1, d2, _, d3, d4, d5⟩ := HS8.out.boxes
      clear hr7 hg8 HS7
      have h4 : x = 0 ∨ x = 1 ∨ x = 2 ∨ x = 3 := by omega
      clear hx0 hx4
      rcases h4 with rfl | rfl | rfl | rfl
      · go_wp2_with fail
        refine (pick 4 b _ W8 hr8 (by omega) (by omega) (by omega)).mono ?_
        rintro e W9 ⟨y, hy0, hy4, rfl, hr9, hg9⟩
        have HS9 := Lib.hid (HS8.out.pick hg9 hr9)
        have HS10 := Lib.hid (HS9.out.setFi (y - 3))
        have hwy : IntKind.i64.wrap (y - 3) = y - 3 := IntWalk.i64_in _ (by omega)
        have hI : I64 (y - 3) := I64_small (by omega) (by omega)
        obtain ⟨_, m2, _, _, _, _⟩ := HS9.out.boxes
        obtain ⟨t1, t2, t3, t4, t5⟩ := m2
        clear hr8 hr9 hg9 HS8 HS9 hy0 hy4 d1 d2 d5
        go_upto_region 17 with fail
        generalize W9.setCell ⟨w3.heap.size, 0, none⟩ (.int .i64 (y - 3)) = W10 at *
        clear t1 t2 t3 t4 t5
        generalize y - 3 = z at *
        obtain ⟨wf, ef, hxf, hxg, hout⟩ := (HS10.out).done hp1 hp4 hqs hq7 hI1 hn1 hs64' (by omega) hI
        have Ef := Lib.hid ef
        obtain ⟨g1, g2, _, _, _⟩ := hxg
        rw [ef] at g1 g2
        have G1 := Lib.hid g1
        have G2 := Lib.hid g2
        clear g1 g2
        have Hout : Hid (DrewPQ b (c + 800) w (.returned (.tuple #[.int .i64 p, .slice qo qs.length qcap, .slice (some ⟨w4.heap.size, 0, none⟩) 1 1, .agg #[.int .i64 z, (.slice po2 L2 pcap2)]])) wf) := by
          obtain ⟨a1, a2, a3, a4, a5, a6, a7, a8, a9, q1, q2, q3, q4, q5, q6, q7, q8, q9, qa, qb, qc, qd, qe, qf⟩ := hout
          exact ⟨a1, a2, a3, a4, a5, a6, a7, a8, a9, q1, q2, q3, q4, q5, q6, q7, q8, q9, qa, qb, qc, qd, qe.mono (by omega), qf⟩
        obtain ⟨b1, b2, _, _, _, _⟩ := (HS10.out).boxes
        obtain ⟨y1, y2, y3, y4, y5⟩ := b1
        obtain ⟨t1, t2, t3, t4, t5⟩ := b2
        clear ef hout
        go_wp2_with fail
        go_region_held3 (fun w' => w'.cell? ⟨w3.heap.size, 0, none⟩ = some (.int .i64 z) ∧ w'.cell? ⟨w3.heap.size, 1, none⟩ = some (.slice po2 L2 pcap2))
          (first | (refine ⟨?_, ?_⟩ <;> first | assumption | exact G1.out | exact G2.out | go_keep) | assumption | exact G1.out | exact G2.out)
          (fail)
        go_wp2
        rw [← Ef.out]
        obtain ⟨z1, z2, _⟩ := hxf
        exact bodyPost_ret (v := .tuple #[.int .i64 p, .slice qo qs.length qcap, .slice (some ⟨w4.heap.size, 0, none⟩) 1 1, .agg #[.int .i64 z, (.slice po2 L2 pcap2)]]) (by have z1' : wf.drew.cell? ⟨w.heap.size, 0, none⟩ = _ := z1; have z2' : wf.drew.cell? ⟨w.heap.size, 1, none⟩ = _ := z2; simp [results, Tryd.results14, go_sem, z1', z2']) rfl (Hout.out.below (drew_below11 wf))
      · obtain ⟨t1, t2, t3, t4, t5⟩ := d2
        have hs8 := HS8.out.size
        go_wp2_with fail
        go_region_law
          (first
            | (refine app_own (by rfl) (.tmp 62) (.tmp 66) TSl TSp w2.heap.size 3 24 (.agg #[.int .i64 0, .int .i64 0, .int .i64 0]) (by rfl) Tryd.underlying25 Si.out Sz0.out Sz1.out Sz2.out rfl (by decide) (by rfl) (by rfl) (by first | exact Hown9.out.alloc _ | exact own_drewU (Hown9.out.alloc _) _) (m := 1) (news := scells [(y, -1, -2)]) (by rw [scells_length]; rfl) (by first | exact news3 _ _ rfl _ _ _) (scells_one _) (by unfold maxLen; omega) (by omega) (by simp; omega) ?_
               go_must (intro v10 W10 hown10 hgr10 hat10
                        have hgr : (W9.alloc (.cells #[.int .i64 y, .int .i64 (-1), .int .i64 (-2)] TSp)).grownBy W10 (Value.slice po2 L2 pcap2).ownBlock := by first | exact hgr10 | exact grownBy_drew0 hgr10 | exact grownBy_drewX hgr10
                        obtain ⟨fo, fc, hv10⟩ := own_len hown10
                        subst hv10
                        have hset := HS9.out.setSp (sp' := sp2 ++ [(y, -1, -2)]) hgr (by rw [scells_append, List.length_append, hL]; exact hown10) hat10
                        obtain ⟨hst10, hbox10⟩ := hset
                        obtain ⟨p1, p2, p3, p4, p5⟩ := hbox10
                        have HS10 := Lib.hid hst10
                        clear hown10 hgr10 hat10 hgr hst10 q1 q2 q3 q4 q5))
            | (go_simp
               go_at_call 26
               refine (pick 4 b _ _ (by exact hr8) (by omega) (by omega) (by omega)).mono ?_
               rintro e W9 ⟨y, hy0, hy4, rfl, hr9, hg9'⟩
               have hg9 : W8.grownBy W9 (some b) := by first | exact hg9' | exact grownBy_drew0 hg9' | exact grownBy_drewX hg9'
               go_must (have HS9 := Lib.hid (HS8.out.pick hg9 hr9)
                        obtain ⟨_, m2, _, _, _, m5⟩ := HS9.out.boxes
                        obtain ⟨q1, q2, q3, q4, q5⟩ := m2
                        rw [hL] at m5
                        have Hown9 := Lib.hid m5
                        have hIy : Hid (I64 y) := I64_small (by omega) (by omega)
                        have hs9 := HS9.out.size
                        have hA9 : w2.heap.size ≤ W9.heap.size := by omega
                        clear hg9 hg9' hr9 m5 hy0 hy4))
            | fail)
        all_goals
          have HS64 : Hid (S64 (sp2 ++ [(y, -1, -2)])) := S64_snoc hs64' hIy.out (by show I64 (-1 : Int); exact I64_small (by omega) (by omega)) (by show I64 (-2 : Int); exact I64_small (by omega) (by omega))
          have Hsp16 : Hid ((sp2 ++ [(y, (-1 : Int), (-2 : Int))]).length ≤ 16) := by unfold Hid; rw [List.length_append]; simp; omega
          generalize W10.setCell ⟨w3.heap.size, 1, none⟩ (.slice fo (L2 + 1) fc) = W11 at *
          clear p1 p2 p3 p4 p5 t1 t2 t3 t4 t5
          generalize sp2 ++ [(y, (-1 : Int), (-2 : Int))] = sp11 at *
          obtain ⟨wf, ef, hxf, hxg, hout⟩ := (HS10.out).done hp1 hp4 hqs hq7 hI1 hn1 HS64.out Hsp16.out hfi'
          have Ef := Lib.hid ef
          obtain ⟨g1, g2, _, _, _⟩ := hxg
          rw [ef] at g1 g2
          have G1 := Lib.hid g1
          have G2 := Lib.hid g2
          clear g1 g2
          have Hout : Hid (DrewPQ b (c + 800) w (.returned (.tuple #[.int .i64 p, .slice qo qs.length qcap, .slice (some ⟨w4.heap.size, 0, none⟩) 1 1, .agg #[.int .i64 fi2, (.slice fo (L2 + 1) fc)]])) wf) := by
            obtain ⟨a1, a2, a3, a4, a5, a6, a7, a8, a9, q1, q2, q3, q4, q5, q6, q7, q8, q9, qa, qb, qc, qd, qe, qf⟩ := hout
            exact ⟨a1, a2, a3, a4, a5, a6, a7, a8, a9, q1, q2, q3, q4, q5, q6, q7, q8, q9, qa, qb, qc, qd, qe.mono (by omega), qf⟩
          obtain ⟨b1, b2, _, _, _, _⟩ := (HS10.out).boxes
          obtain ⟨y1, y2, y3, y4, y5⟩ := b1
          obtain ⟨t1, t2, t3, t4, t5⟩ := b2
          clear ef hout
          go_wp2_with fail
          go_region_held3 (fun w' => w'.cell? ⟨w3.heap.size, 0, none⟩ = some (.int .i64 fi2) ∧ w'.cell? ⟨w3.heap.size, 1, none⟩ = some (.slice fo (L2 + 1) fc))
            (first | (refine ⟨?_, ?_⟩ <;> first | assumption | exact G1.out | exact G2.out | go_keep) | assumption | exact G1.out | exact G2.out)
            (fail)
          go_wp2
          rw [← Ef.out]
          obtain ⟨z1, z2, _⟩ := hxf
          exact bodyPost_ret (v := .tuple #[.int .i64 p, .slice qo qs.length qcap, .slice (some ⟨w4.heap.size, 0, none⟩) 1 1, .agg #[.int .i64 fi2, (.slice fo (L2 + 1) fc)]]) (by have z1' : wf.drew.cell? ⟨w.heap.size, 0, none⟩ = _ := z1; have z2' : wf.drew.cell? ⟨w.heap.size, 1, none⟩ = _ := z2; simp [results, Tryd.results14, go_sem, z1', z2']) rfl (Hout.out.below (drew_below11 wf))
      · by_cases hL0 : L2 = 0
        · obtain ⟨t1, t2, t3, t4, t5⟩ := d2
          have hL1 : ¬ (0 : Int) < (L2 : Int) := by omega
          have hL2 : ¬ 0 < L2 := by omega
          clear hL0
          go_upto_region 17 with fail
          clear t1 t2 t3 t4 t5 d1 d5 hL1 hL2
          obtain ⟨wf, ef, hxf, hxg, hout⟩ := (HS8.out).done hp1 hp4 hqs hq7 hI1 hn1 hs64' (by omega) hfi'
          have Ef := Lib.hid ef
          obtain ⟨g1, g2, _, _, _⟩ := hxg
          rw [ef] at g1 g2
          have G1 := Lib.hid g1
          have G2 := Lib.hid g2
          clear g1 g2
          have Hout : Hid (DrewPQ b (c + 800) w (.returned (.tuple #[.int .i64 p, .slice qo qs.length qcap, .slice (some ⟨w4.heap.size, 0, none⟩) 1 1, .agg #[.int .i64 fi2, (.slice po2 L2 pcap2)]])) wf) := by
            obtain ⟨a1, a2, a3, a4, a5, a6, a7, a8, a9, q1, q2, q3, q4, q5, q6, q7, q8, q9, qa, qb, qc, qd, qe, qf⟩ := hout
            exact ⟨a1, a2, a3, a4, a5, a6, a7, a8, a9, q1, q2, q3, q4, q5, q6, q7, q8, q9, qa, qb, qc, qd, qe.mono (by omega), qf⟩
          obtain ⟨b1, b2, _, _, _, _⟩ := (HS8.out).boxes
          obtain ⟨y1, y2, y3, y4, y5⟩ := b1
          obtain ⟨t1, t2, t3, t4, t5⟩ := b2
          clear ef hout
          go_wp2_with fail
          go_region_held3 (fun w' => w'.cell? ⟨w3.heap.size, 0, none⟩ = some (.int .i64 fi2) ∧ w'.cell? ⟨w3.heap.size, 1, none⟩ = some (.slice po2 L2 pcap2))
            (first | (refine ⟨?_, ?_⟩ <;> first | assumption | exact G1.out | exact G2.out | go_keep) | assumption | exact G1.out | exact G2.out)
            (fail)
          go_wp2
          rw [← Ef.out]
          obtain ⟨z1, z2, _⟩ := hxf
          exact bodyPost_ret (v := .tuple #[.int .i64 p, .slice qo qs.length qcap, .slice (some ⟨w4.heap.size, 0, none⟩) 1 1, .agg #[.int .i64 fi2, (.slice po2 L2 pcap2)]]) (by have z1' : wf.drew.cell? ⟨w.heap.size, 0, none⟩ = _ := z1; have z2' : wf.drew.cell? ⟨w.heap.size, 1, none⟩ = _ := z2; simp [results, Tryd.results14, go_sem, z1', z2']) rfl (Hout.out.below (drew_below11 wf))
        · rw [hL] at d5
          obtain ⟨gs, rfl⟩ : ∃ gs, po2 = some ⟨gs, 0, none⟩ := by
            rcases d5.2 with ⟨_, h0⟩ | ⟨gs, c12, cur, h, _⟩
            · omega
            · cases h; exact ⟨gs, rfl⟩
          have hlc : L2 ≤ pcap2 := by
            rcases d5.2 with ⟨h, _⟩ | ⟨_, _, cur, h, _, _, h2, _⟩
            · cases h
            · cases h; exact h2
          obtain ⟨t1, t2, t3, t4, t5⟩ := d2
          have hL1 : (0 : Int) < (L2 : Int) := by omega
          have hL2 : 0 < L2 := by omega
          clear hL0 d5 d1
          go_upto_region 16 with fail
          go_region_law
            (first
              | (go_simp
                 go_at_call 26
                 (with_reducible refine (pick (L2 : Int) b (c + 700 + 1 + 1) _ ?_ ?_ ?_ ?_).mono ?_)
                 · exact hr8
                 · omega
                 · omega
                 · omega
                 rintro e W9 ⟨y, hy0, hyL, rfl, hr9, hg9'⟩
                 have hg9 : W8.grownBy W9 (some b) := by first | exact hg9' | exact grownBy_drew0 hg9' | exact grownBy_drewX hg9'
                 go_must (have HS9 := Lib.hid (HS8.out.pick hg9 hr9)
                          obtain ⟨_, m2, _, _, _, _⟩ := HS9.out.boxes
                          obtain ⟨q1, q2, q3, q4, q5⟩ := m2
                          obtain ⟨J, rfl⟩ : ∃ J : Nat, y = J := Int.eq_ofNat_of_zero_le hy0
                          clear hg9 hg9' hr8 t1 t2 t3 t4 t5))
              | (go_simp
                 go_at_call 26
                 (with_reducible refine (pick 5 b (c + 700 + 1 + 1 + 1) _ ?_ ?_ ?_ ?_).mono ?_)
                 · exact hr9
                 · omega
                 · omega
                 · omega
                 rintro e W10 ⟨z, hz0, hz5, rfl, hr10, hg10'⟩
                 have hg10 : W9.grownBy W10 (some b) := by first | exact hg10' | exact grownBy_drew0 hg10' | exact grownBy_drewX hg10'
                 go_must (have HS10 := Lib.hid (HS9.out.pick hg10 hr10)
                          obtain ⟨_, m2, _, _, _, m5⟩ := HS10.out.boxes
                          obtain ⟨p1, p2, p3, p4, p5⟩ := m2
                          have HJ : Hid (J < L2) := by unfold Hid; omega
                          obtain ⟨sp11, hsp11, hs11, hst11⟩ := HS10.out.setWho hL hs64' HJ.out (z := z) (I64_small (by omega) (by omega))
                          have HS11 := Lib.hid hst11
                          have Hs11 := Lib.hid hs11
                          have Hl11 := Lib.hid (show sp11.length ≤ 16 by omega)
                          rw [hL] at m5
                          obtain ⟨k1, _, _⟩ := scells_get sp2 J (by omega)
                          have kc := (m5.cellAt (J * 3) (by omega)).trans k1
                          have kf := m5.frozenAt (J * 3)
                          generalize (sp2.getD J sp0).1 = kx at *
                          clear hg10 hg10' hr9 hr10 m5 k1 hst11 hs11 hsp11 q1 q2 q3 q4 q5))
              | fail)
          all_goals
            generalize W10.setCell ⟨gs, J * 3, none⟩ (.int .i64 z) = W11 at *
            clear p1 p2 p3 p4 p5 kc kf
            obtain ⟨wf, ef, hxf, hxg, hout⟩ := (HS11.out).done hp1 hp4 hqs hq7 hI1 hn1 Hs11.out Hl11.out hfi'
            have Ef := Lib.hid ef
            obtain ⟨g1, g2, _, _, _⟩ := hxg
            rw [ef] at g1 g2
            have G1 := Lib.hid g1
            have G2 := Lib.hid g2
            clear g1 g2
            have Hout : Hid (DrewPQ b (c + 800) w (.returned (.tuple #[.int .i64 p, .slice qo qs.length qcap, .slice (some ⟨w4.heap.size, 0, none⟩) 1 1, .agg #[.int .i64 fi2, (.slice (some ⟨gs, 0, none⟩) L2 pcap2)]])) wf) := by
              obtain ⟨a1, a2, a3, a4, a5, a6, a7, a8, a9, q1, q2, q3, q4, q5, q6, q7, q8, q9, qa, qb, qc, qd, qe, qf⟩ := hout
              exact ⟨a1, a2, a3, a4, a5, a6, a7, a8, a9, q1, q2, q3, q4, q5, q6, q7, q8, q9, qa, qb, qc, qd, qe.mono (by omega), qf⟩
            obtain ⟨b1, b2, _, _, _, _⟩ := (HS11.out).boxes
            obtain ⟨y1, y2, y3, y4, y5⟩ := b1
            obtain ⟨t1, t2, t3, t4, t5⟩ := b2
            clear ef hout
            go_wp2_with fail
            go_region_held3 (fun w' => w'.cell? ⟨w3.heap.size, 0, none⟩ = some (.int .i64 fi2) ∧ w'.cell? ⟨w3.heap.size, 1, none⟩ = some (.slice (some ⟨gs, 0, none⟩) L2 pcap2))
              (first | (refine ⟨?_, ?_⟩ <;> first | assumption | exact G1.out | exact G2.out | go_keep) | assumption | exact G1.out | exact G2.out)
              (fail)
            go_wp2
            rw [← Ef.out]
            obtain ⟨z1, z2, _⟩ := hxf
            exact bodyPost_ret (v := .tuple #[.int .i64 p, .slice qo qs.length qcap, .slice (some ⟨w4.heap.size, 0, none⟩) 1 1, .agg #[.int .i64 fi2, (.slice (some ⟨gs, 0, none⟩) L2 pcap2)]]) (by have z1' : wf.drew.cell? ⟨w.heap.size, 0, none⟩ = _ := z1; have z2' : wf.drew.cell? ⟨w.heap.size, 1, none⟩ = _ := z2; simp [results, Tryd.results14, go_sem, z1', z2']) rfl (Hout.out.below (drew_below11 wf))
      · by_cases hL0 : L2 = 0
        · obtain ⟨t1, t2, t3, t4, t5⟩ := d2
          have hL1 : ¬ (0 : Int) < (L2 : Int) := by omega
          have hL2 : ¬ 0 < L2 := by omega
          clear hL0
          go_upto_region 17 with fail
          clear t1 t2 t3 t4 t5 d1 d5 hL1 hL2
          obtain ⟨wf, ef, hxf, hxg, hout⟩ := (HS8.out).done hp1 hp4 hqs hq7 hI1 hn1 hs64' (by omega) hfi'
          have Ef := Lib.hid ef
          obtain ⟨g1, g2, _, _, _⟩ := hxg
          rw [ef] at g1 g2
          have G1 := Lib.hid g1
          have G2 := Lib.hid g2
          clear g1 g2
          have Hout : Hid (DrewPQ b (c + 800) w (.returned (.tuple #[.int .i64 p, .slice qo qs.length qcap, .slice (some ⟨w4.heap.size, 0, none⟩) 1 1, .agg #[.int .i64 fi2, (.slice po2 L2 pcap2)]])) wf) := by
            obtain ⟨a1, a2, a3, a4, a5, a6, a7, a8, a9, q1, q2, q3, q4, q5, q6, q7, q8, q9, qa, qb, qc, qd, qe, qf⟩ := hout
            exact ⟨a1, a2, a3, a4, a5, a6, a7, a8, a9, q1, q2, q3, q4, q5, q6, q7, q8, q9, qa, qb, qc, qd, qe.mono (by omega), qf⟩
          obtain ⟨b1, b2, _, _, _, _⟩ := (HS8.out).boxes
          obtain ⟨y1, y2, y3, y4, y5⟩ := b1
          obtain ⟨t1, t2, t3, t4, t5⟩ := b2
          clear ef hout
          go_wp2_with fail
          go_region_held3 (fun w' => w'.cell? ⟨w3.heap.size, 0, none⟩ = some (.int .i64 fi2) ∧ w'.cell? ⟨w3.heap.size, 1, none⟩ = some (.slice po2 L2 pcap2))
            (first | (refine ⟨?_, ?_⟩ <;> first | assumption | exact G1.out | exact G2.out | go_keep) | assumption | exact G1.out | exact G2.out)
            (fail)
          go_wp2
          rw [← Ef.out]
          obtain ⟨z1, z2, _⟩ := hxf
          exact bodyPost_ret (v := .tuple #[.int .i64 p, .slice qo qs.length qcap, .slice (some ⟨w4.heap.size, 0, none⟩) 1 1, .agg #[.int .i64 fi2, (.slice po2 L2 pcap2)]]) (by have z1' : wf.drew.cell? ⟨w.heap.size, 0, none⟩ = _ := z1; have z2' : wf.drew.cell? ⟨w.heap.size, 1, none⟩ = _ := z2; simp [results, Tryd.results14, go_sem, z1', z2']) rfl (Hout.out.below (drew_below11 wf))
        · rw [hL] at d5
          obtain ⟨gs, rfl⟩ : ∃ gs, po2 = some ⟨gs, 0, none⟩ := by
            rcases d5.2 with ⟨_, h0⟩ | ⟨gs, c12, cur, h, _⟩
            · omega
            · cases h; exact ⟨gs, rfl⟩
          have hlc : L2 ≤ pcap2 := by
            rcases d5.2 with ⟨h, _⟩ | ⟨_, _, cur, h, _, _, h2, _⟩
            · cases h
            · cases h; exact h2
          obtain ⟨t1, t2, t3, t4, t5⟩ := d2
          have hL1 : (0 : Int) < (L2 : Int) := by omega
          have hL2 : 0 < L2 := by omega
          clear hL0 d5 d1
          go_upto_region 9 with fail
          go_region_law
            (first
              | (go_simp
                 go_at_call 26
                 (with_reducible refine (pick 5 b (c + 700 + 1 + 1) _ ?_ ?_ ?_ ?_).mono ?_)
                 · exact hr8
                 · omega
                 · omega
                 · omega
                 rintro e W10 ⟨z, hz0, hz5, rfl, hr10, hg10'⟩
                 have hg10 : W8.grownBy W10 (some b) := by first | exact hg10' | exact grownBy_drew0 hg10' | exact grownBy_drewX hg10'
                 go_must (have HS10 := Lib.hid (HS8.out.pick hg10 hr10)
                          obtain ⟨_, m2, _, _, _, m5⟩ := HS10.out.boxes
                          obtain ⟨p1, p2, p3, p4, p5⟩ := m2
                          have hwz : IntKind.i64.wrap (z - 3) = z - 3 := IntWalk.i64_in _ (by omega)
                          obtain ⟨sp11, hsp11, hs11, hst11⟩ := HS10.out.setNo hL hs64' hL2 (z := z - 3) (I64_small (by omega) (by omega))
                          have HS11 := Lib.hid hst11
                          have Hs11 := Lib.hid hs11
                          have Hl11 := Lib.hid (show sp11.length ≤ 16 by omega)
                          rw [hL] at m5
                          obtain ⟨_, k1, _⟩ := scells_get sp2 0 (by omega)
                          have kc := (m5.cellAt (0 * 3 + 1) (by omega)).trans k1
                          have kf := m5.frozenAt (0 * 3 + 1)
                          rw [show 0 * 3 + 1 = 1 from rfl] at kc kf
                          generalize (sp2.getD 0 sp0).2.1 = kx at *
                          clear hg10 hg10' hr8 hr10 m5 k1 hst11 hs11 hsp11 hz0 hz5 t1 t2 t3 t4 t5))
              | fail)
          all_goals
            rw [show 0 * 3 + 1 = 1 from rfl] at HS11
            generalize W10.setCell ⟨gs, 1, none⟩ (.int .i64 (z - 3)) = W11 at *
            clear p1 p2 p3 p4 p5 kc kf
            obtain ⟨wf, ef, hxf, hxg, hout⟩ := (HS11.out).done hp1 hp4 hqs hq7 hI1 hn1 Hs11.out Hl11.out hfi'
            have Ef := Lib.hid ef
            obtain ⟨g1, g2, _, _, _⟩ := hxg
            rw [ef] at g1 g2
            have G1 := Lib.hid g1
            have G2 := Lib.hid g2
            clear g1 g2
            have Hout : Hid (DrewPQ b (c + 800) w (.returned (.tuple #[.int .i64 p, .slice qo qs.length qcap, .slice (some ⟨w4.heap.size, 0, none⟩) 1 1, .agg #[.int .i64 fi2, (.slice (some ⟨gs, 0, none⟩) L2 pcap2)]])) wf) := by
              obtain ⟨a1, a2, a3, a4, a5, a6, a7, a8, a9, q1, q2, q3, q4, q5, q6, q7, q8, q9, qa, qb, qc, qd, qe, qf⟩ := hout
              exact ⟨a1, a2, a3, a4, a5, a6, a7, a8, a9, q1, q2, q3, q4, q5, q6, q7, q8, q9, qa, qb, qc, qd, qe.mono (by omega), qf⟩
            obtain ⟨b1, b2, _, _, _, _⟩ := (HS11.out).boxes
            obtain ⟨y1, y2, y3, y4, y5⟩ := b1
            obtain ⟨t1, t2, t3, t4, t5⟩ := b2
            clear ef hout
            go_wp2_with fail
            go_region_held3 (fun w' => w'.cell? ⟨w3.heap.size, 0, none⟩ = some (.int .i64 fi2) ∧ w'.cell? ⟨w3.heap.size, 1, none⟩ = some (.slice (some ⟨gs, 0, none⟩) L2 pcap2))
              (first | (refine ⟨?_, ?_⟩ <;> first | assumption | exact G1.out | exact G2.out | go_keep) | assumption | exact G1.out | exact G2.out)
              (fail)
            go_wp2
            rw [← Ef.out]
            obtain ⟨z1, z2, _⟩ := hxf
            exact bodyPost_ret (v := .tuple #[.int .i64 p, .slice qo qs.length qcap, .slice (some ⟨w4.heap.size, 0, none⟩) 1 1, .agg #[.int .i64 fi2, (.slice (some ⟨gs, 0, none⟩) L2 pcap2)]]) (by have z1' : wf.drew.cell? ⟨w.heap.size, 0, none⟩ = _ := z1; have z2' : wf.drew.cell? ⟨w.heap.size, 1, none⟩ = _ := z2; simp [results, Tryd.results14, go_sem, z1', z2']) rfl (Hout.out.below (drew_below11 wf))
end Go.Proofs.YtilgkheefhobgaaDoor

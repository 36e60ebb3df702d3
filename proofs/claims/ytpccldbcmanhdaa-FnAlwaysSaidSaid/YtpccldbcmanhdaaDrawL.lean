/- The reference model's draw of odd claims. -/
import Derived.Test.YtpccldbcmanhdaaDrawLa
namespace Go.Proofs.Ytpccldbcmanhdaa
open Go.RowKit Go.Joins
attribute [local irreducible] holds tabN tabV holdsV sameV followsV alwaysV matterV claimOk mayT mayV ctabV ctabN storyV storyOk storyN storyT ctermV ctermL sayV neverV alwsV nestOk nestV kindOk kindV mcells
set_option maxRecDepth 100000 in
set_option maxHeartbeats 8000000 in
theorem l20Odd (b c : Nat) (w : World) (hrd : Rd w b c) (hc : c ≤ 1000000) :
    Calls Try.prog 67 #[.pointer (some ⟨b, 0, none⟩)] w (DrewPC b (c + 200) w) := by
  obtain ⟨im, hmi, hmz0, hmz1, hmz2⟩ := info_parts Try.infoM
  have Mi := Lib.hid hmi; clear hmi
  have Mz0 := Lib.hid hmz0; clear hmz0
  have Mz1 := Lib.hid hmz1; clear hmz1
  have Mz2 := Lib.hid hmz2; clear hmz2
  have hbw := hrd.lt
  go_enter Try.func67, Try.ntmps67
  go_upto_region 1 with fail
  obtain ⟨w1, hw1, hx1, hbw1, hsz⟩ := Box.new w (.int .i64 0) (.slice none 0 0) TC
  have hrd1 : Rd w1 b c := by rw [hw1]; exact hrd.alloc _
  have hG1 : w.grownBy w1 (some b) := by rw [hw1]; exact only_alloc (World.grownBy.refl _ _) _
  rw [← hw1]
  clear hw1 hrd hbw1
  go_wp2_with fail
  refine (l20Claimed 12 b c _ hrd1 (by omega) (by omega)).mono ?_
  rintro e w2 ⟨p, k, g, cap, ms, hp1, hp4, rfl, hown2, hi, hn20, hk1, hk4, hrd2, hg2⟩
  have hG2 := grownBy_trans hG1 hg2
  have hx2 := hx1.grown hg2 (by simp; omega)
  have hsz2 := hx2.2.2.2.2
  clear hg2 hG1 hx1 hrd1
  go_upto_region 2 with fail
  obtain ⟨w3, hw3, hy3, hb3, hsz3⟩ := Box.new w2 (.int .i64 k) (.slice (some ⟨g, 0, none⟩) ms.length cap) TC
  have hrd3 : Rd w3 b (c + 104) := by rw [hw3]; exact hrd2.alloc _
  have hown3 : w3.ownsRow w1.heap.size TM 2 (.slice (some ⟨g, 0, none⟩) ms.length cap) ms.length (mcells ms) := by rw [hw3]; exact hown2.alloc _
  have hG3 : w.grownBy w3 (some b) := by rw [hw3]; exact only_alloc hG2 _
  have hx3 := hx2.below hb3
  rw [← hw3]
  clear hw3 hb3 hrd2 hown2 hG2 hx2
  go_wp2_with fail
  refine (pick 4 b (c + 104) _ hrd3 (by omega) (by omega) (by omega)).mono ?_
  rintro e w4 ⟨x, hx0, hxp, rfl, hrd4, hg4⟩
  have hx4 := hx3.grown hg4 (by simp; omega)
  have hy4 := hy3.grown hg4 (by simp; omega)
  have hown4 := own_row hown3 hg4 (by omega)
  have hG4 := grownBy_trans hG3 hg4
  have hs4 : w2.heap.size < w4.heap.size := hy4.2.2.2.2
  have hw4s : w.heap.size < w4.heap.size := hx4.2.2.2.2
  clear hrd3 hg4 hx3 hy3 hown3 hG3
  have Hrd4 := Lib.hid hrd4
  have HX4 := Lib.hid hx4
  have HY4 := Lib.hid hy4
  have Ho4 := Lib.hid hown4
  have HG4 := Lib.hid hG4
  have Hi := Lib.hid hi
  have hb4 : b < w4.heap.size := by omega
  clear hrd4 hown4 hG4 hi
  by_cases hc0 : x = 0
  · subst hc0
    obtain ⟨t1, t2, t3, t4, t5⟩ := hy4
    have hnb1 : ¬ w2.heap.size = w4.heap.size := by omega
    have hnb2 : ¬ w4.heap.size = w2.heap.size := by omega
    clear hx4
    rcases kind_all p k with hko | hko
    all_goals
      have Hko := Lib.hid hko
      clear hko
    · go_upto_region 4 with fail
      go_cut [6, 7] from 9 (fun v6 v7 wr => ∃ (A : Nat) (kk : Int) (a5 : Option Addr) (c5 : Nat) (xs : List (Int × Int)), w4.heap.size ≤ A ∧ v6 = .pointer (some ⟨A, 0, none⟩) ∧ v7 = .bool true ∧ Box wr A (.int .i64 kk) (.slice a5 xs.length c5) ∧ wr.ownsRow w4.heap.size TM 2 (.slice a5 xs.length c5) xs.length (mcells xs) ∧ w4.grownBy wr (some b) ∧ Rd wr b (c + 104 + 1 + 1) ∧ kk = k ∧ 0 < xs.length ∧ xs.length ≤ 2 ∧ I64s xs)
      case first =>
        go_region_held3 (fun w' => w'.cell? ⟨w2.heap.size, 0, none⟩ = some (.int .i64 k) ∧ w'.cell? ⟨w2.heap.size, 1, none⟩ = some (.slice (some ⟨g, 0, none⟩) ms.length cap))
          (first | (refine ⟨?_, ?_⟩ <;> first | go_keep | assumption) | assumption)
          (first
            | (go_at_call 69
               (with_reducible refine (sp_pick (w0 := w4) (b := b) (c := c + 104 + 1) (by (repeat (first | exact H5.out | exact Sp.nil Hrd4.out | (with_reducible apply Sp.claim) | (with_reducible apply Sp.drewN) | (with_reducible apply Sp.drew)))) hb4 (by omega)).mono ?_)
               rintro e w5 ⟨y, rfl, h5⟩
               go_must (have n0 := ((h5.1).cell_far ⟨w2.heap.size, 0, none⟩ hs4 (by simp; omega)).trans t1
                        have n1 := ((h5.1).cell_far ⟨w2.heap.size, 1, none⟩ hs4 (by simp; omega)).trans t2
                        have hs5 := h5.1.size
                        have hna1 : ¬ w2.heap.size = w5.heap.size := by omega
                        have hna2 : ¬ w5.heap.size = w2.heap.size := by omega
                        have H5 := Lib.hid h5
                        clear h5))
            | (go_at_call 39
               (with_reducible refine (sp_kind1 (w0 := w4) (b := b) (c := c + 104 + 1 + 1) (p := p) (k := k) (o := true) rfl Hko.out (by omega) (by omega) (by (repeat (first | exact H5.out | exact Sp.nil Hrd4.out | (with_reducible apply Sp.claim) | (with_reducible apply Sp.drewN) | (with_reducible apply Sp.drew))))).mono ?_)
               rintro e w6 ⟨kk, xs, f6, p6, rfl, ho6, h6, hne6, hkk, hx1, hx2, hx3⟩
               obtain rfl : k = kk := hkk.symm
               go_must (have n0 := ((h6.1).cell_far ⟨w2.heap.size, 0, none⟩ hs4 (by simp; omega)).trans t1
                        have n1 := ((h6.1).cell_far ⟨w2.heap.size, 1, none⟩ hs4 (by simp; omega)).trans t2
                        have H6 := Lib.hid h6
                        have Ho6 := Lib.hid ho6
                        have Hne6 := Lib.hid hne6
                        clear h6 ho6 hne6
                        try (have hbx := Sp.boxAt H6.out
                             try simp only [size_allocX] at hbx
                             have HBX := Lib.hid hbx
                             obtain ⟨y1, y2, y3, y4, y5⟩ := hbx)))
            | fail)
        all_goals
          go_wp2
          go_meet
          case rel => first
            | (obtain ⟨w7, e7, hx7, hg7⟩ := HBX.out.set (.int .i64 k) (.slice f6 xs.length p6)
               rw [← e7]
               exact ⟨_, k, f6, p6, xs, by first | exact (H6.out.2.2 _ rfl).1 | simpa only [size_allocX] using (H6.out.2.2 _ rfl).1, by first | rfl | simp, rfl, hx7, Ho6.out.kept hg7 (.inr (by first | exact Hne6.out _ rfl | simpa only [size_allocX] using Hne6.out _ rfl)), (H6.out.ended hb4 hg7).1, (H6.out.ended hb4 hg7).2, rfl, hx1, hx2, hx3⟩)
            | (obtain ⟨w7, e7, hx7, hb7, _⟩ := Box.new w6 (.int .i64 k) (.slice f6 xs.length p6) TC
               rw [← e7]
               exact ⟨_, k, f6, p6, xs, H6.out.1.size, by first | rfl | simp, rfl, hx7, own_below Ho6.out hb7, (H6.out.ended0 hb7).1, (H6.out.ended0 hb7).2, rfl, hx1, hx2, hx3⟩)
      case rest =>
      rename World => w5
      obtain ⟨A, kk, a5, c5, xs, hA4, rfl, rfl, hxA, ho5, hg5, hrd5, hkk, hx1, hx2, hx3⟩ := hcut
      obtain rfl : k = kk := hkk.symm
      have hx5 := HX4.out.grown hg5 (by simp; omega)
      have hy5 := HY4.out.grown hg5 (by simp; omega)
      have hG5 := grownBy_trans HG4.out hg5
      have ho45 := own_row Ho4.out hg5 (by omega)
      clear t1 t2 t3 t4 t5
      obtain ⟨q1, q2, q3, q4, q5⟩ := hx5
      obtain ⟨g5, cap5, hf5⟩ := ownsRow_form ho5 hx1
      cases hf5
      obtain ⟨r1, r2, r3, r4, r5⟩ := hxA
      have Hdone := Lib.hid (odd_done (c := c + 200) hbw hw4s (show Box w5 w.heap.size _ _ from ⟨q1, q2, q3, q4, q5⟩) hG5 hrd5 ho5 hx3 (by omega) hk1 hk4 hp1 hp4 (by omega))
      clear hy5 hg5 hrd5 ho5 ho45 hG5
      obtain ⟨w9, e9, hx9, hout⟩ := Hdone.out
      have E9 := Lib.hid e9
      have Hout := Lib.hid hout
      have hne1 : ¬ A = w.heap.size := by omega
      have hne2 : ¬ w.heap.size = A := by omega
      clear e9 hout
      go_wp2_with fail
      go_region_held3 (fun w' => w'.cell? ⟨A, 0, none⟩ = some (.int .i64 k) ∧ w'.cell? ⟨A, 1, none⟩ = some (.slice (some ⟨g5, 0, none⟩) xs.length c5))
        (first | (refine ⟨?_, ?_⟩ <;> first | go_keep | assumption) | assumption)
        (fail)
      go_wp2
      rw [← E9.out]
      obtain ⟨z1, z2, _⟩ := hx9
      first | exact bodyPost_ret (by simp [results, Try.results67, go_sem, z1, z2]) rfl Hout.out | exact bodyPost_ret (by simp [results, Try.results67, go_sem, z1, z2]) rfl Hout.out.drew

    · go_upto_region 4 with fail
      go_cut [6, 7] from 9 (fun v6 v7 wr => ∃ (A : Nat) (kk : Int) (a5 : Option Addr) (c5 : Nat) (xs : List (Int × Int)), w4.heap.size ≤ A ∧ v6 = .pointer (some ⟨A, 0, none⟩) ∧ v7 = .bool false ∧ Box wr A (.int .i64 kk) (.slice a5 xs.length c5) ∧ wr.ownsRow w4.heap.size TM 2 (.slice a5 xs.length c5) xs.length (mcells xs) ∧ w4.grownBy wr (some b) ∧ Rd wr b (c + 104 + 1 + 1))
      case first =>
        go_region_held3 (fun w' => w'.cell? ⟨w2.heap.size, 0, none⟩ = some (.int .i64 k) ∧ w'.cell? ⟨w2.heap.size, 1, none⟩ = some (.slice (some ⟨g, 0, none⟩) ms.length cap))
          (first | (refine ⟨?_, ?_⟩ <;> first | go_keep | assumption) | assumption)
          (first
            | (go_at_call 69
               (with_reducible refine (sp_pick (w0 := w4) (b := b) (c := c + 104 + 1) (by (repeat (first | exact H5.out | exact Sp.nil Hrd4.out | (with_reducible apply Sp.claim) | (with_reducible apply Sp.drewN) | (with_reducible apply Sp.drew)))) hb4 (by omega)).mono ?_)
               rintro e w5 ⟨y, rfl, h5⟩
               go_must (have n0 := ((h5.1).cell_far ⟨w2.heap.size, 0, none⟩ hs4 (by simp; omega)).trans t1
                        have n1 := ((h5.1).cell_far ⟨w2.heap.size, 1, none⟩ hs4 (by simp; omega)).trans t2
                        have hs5 := h5.1.size
                        have hna1 : ¬ w2.heap.size = w5.heap.size := by omega
                        have hna2 : ¬ w5.heap.size = w2.heap.size := by omega
                        have H5 := Lib.hid h5
                        clear h5))
            | (go_at_call 39
               (with_reducible refine (sp_kind0 (w0 := w4) (b := b) (c := c + 104 + 1 + 1) (p := p) (k := k) (o := false) rfl Hko.out (by omega) (by omega) (by (repeat (first | exact H5.out | exact Sp.nil Hrd4.out | (with_reducible apply Sp.claim) | (with_reducible apply Sp.drewN) | (with_reducible apply Sp.drew))))).mono ?_)
               rintro e w6 ⟨kk, xs, f6, p6, rfl, ho6, h6, hne6⟩
               go_must (have n0 := ((h6.1).cell_far ⟨w2.heap.size, 0, none⟩ hs4 (by simp; omega)).trans t1
                        have n1 := ((h6.1).cell_far ⟨w2.heap.size, 1, none⟩ hs4 (by simp; omega)).trans t2
                        have H6 := Lib.hid h6
                        have Ho6 := Lib.hid ho6
                        have Hne6 := Lib.hid hne6
                        clear h6 ho6 hne6
                        try (have hbx := Sp.boxAt H6.out
                             try simp only [size_allocX] at hbx
                             have HBX := Lib.hid hbx
                             obtain ⟨y1, y2, y3, y4, y5⟩ := hbx)))
            | fail)
        all_goals
          go_wp2
          go_meet
          case rel => first
            | (obtain ⟨w7, e7, hx7, hg7⟩ := HBX.out.set (.int .i64 kk) (.slice f6 xs.length p6)
               rw [← e7]
               exact ⟨_, kk, f6, p6, xs, by first | exact (H6.out.2.2 _ rfl).1 | simpa only [size_allocX] using (H6.out.2.2 _ rfl).1, by first | rfl | simp, rfl, hx7, Ho6.out.kept hg7 (.inr (by first | exact Hne6.out _ rfl | simpa only [size_allocX] using Hne6.out _ rfl)), (H6.out.ended hb4 hg7).1, (H6.out.ended hb4 hg7).2⟩)
            | (obtain ⟨w7, e7, hx7, hb7, _⟩ := Box.new w6 (.int .i64 kk) (.slice f6 xs.length p6) TC
               rw [← e7]
               exact ⟨_, kk, f6, p6, xs, H6.out.1.size, by first | rfl | simp, rfl, hx7, own_below Ho6.out hb7, (H6.out.ended0 hb7).1, (H6.out.ended0 hb7).2⟩)
      case rest =>
      rename World => w5
      obtain ⟨A, kk, a5, c5, xs, hA4, rfl, rfl, hxA, ho5, hg5, hrd5⟩ := hcut
      have hx5 := HX4.out.grown hg5 (by simp; omega)
      have hy5 := HY4.out.grown hg5 (by simp; omega)
      have hG5 := grownBy_trans HG4.out hg5
      have ho45 := own_row Ho4.out hg5 (by omega)
      clear t1 t2 t3 t4 t5
      obtain ⟨q1, q2, q3, q4, q5⟩ := hx5
      obtain ⟨r1, r2, r3, r4, r5⟩ := hy5
      have Hdone := Lib.hid (odd_done (c := c + 200) hbw hsz (show Box w5 w.heap.size _ _ from ⟨q1, q2, q3, q4, q5⟩) hG5 hrd5 ho45 Hi.out hn20 hk1 hk4 hp1 hp4 (by omega))
      clear hxA hg5 hrd5 ho5 ho45 hG5
      obtain ⟨w9, e9, hx9, hout⟩ := Hdone.out
      have E9 := Lib.hid e9
      have Hout := Lib.hid hout
      have hne1 : ¬ w2.heap.size = w.heap.size := by omega
      have hne2 : ¬ w.heap.size = w2.heap.size := by omega
      clear e9 hout
      go_wp2_with fail
      go_region_held3 (fun w' => w'.cell? ⟨w2.heap.size, 0, none⟩ = some (.int .i64 k) ∧ w'.cell? ⟨w2.heap.size, 1, none⟩ = some (.slice (some ⟨g, 0, none⟩) ms.length cap))
        (first | (refine ⟨?_, ?_⟩ <;> first | go_keep | assumption) | assumption)
        (fail)
      go_wp2
      rw [← E9.out]
      obtain ⟨z1, z2, _⟩ := hx9
      first | exact bodyPost_ret (by simp [results, Try.results67, go_sem, z1, z2]) rfl Hout.out | exact bodyPost_ret (by simp [results, Try.results67, go_sem, z1, z2]) rfl Hout.out.drew

  · by_cases hc1 : x = 1
    · subst hc1
      obtain ⟨t1, t2, t3, t4, t5⟩ := hy4
      have hnb1 : ¬ w2.heap.size = w4.heap.size := by omega
      have hnb2 : ¬ w4.heap.size = w2.heap.size := by omega
      clear hx4
      have hc2 := fun B v W h hB => specClaimOk p k (ms ++ [(0, k), (5, 0)]) B v W h hB
      have HI : Hid (I64s (ms ++ [((0 : Int), k), (5, 0)])) := I64s_append Hi.out (I64s_two (I64_small (by omega) (by omega)) (I64_small (by omega) (by omega)) (I64_small (by omega) (by omega)) (I64_small (by omega) (by omega)))
      have hnp1a : ¬ w2.heap.size = w4.heap.size + 1 := by omega
      have hnp1b : ¬ w4.heap.size + 1 = w2.heap.size := by omega
      have hnp2a : ¬ w2.heap.size = w4.heap.size + 1 + 1 := by omega
      have hnp2b : ¬ w4.heap.size + 1 + 1 = w2.heap.size := by omega
      go_upto_region 8 with fail
      go_cut [8] from 9 (fun v wr => ∃ (A : Nat) (a5 : Option Addr) (c5 : Nat), w4.heap.size ≤ A ∧ v = .pointer (some ⟨A, 0, none⟩) ∧ Box wr A (.int .i64 k) (.slice a5 (ms.length + 2) c5) ∧ wr.ownsRow w4.heap.size TM 2 (.slice a5 (ms.length + 2) c5) (ms.length + 2) (mcells ms ++ mcells [(0, k), (5, 0)]) ∧ w4.grownBy wr none)
      case first =>
        go_region_held3 (fun w' => w'.cell? ⟨w2.heap.size, 0, none⟩ = some (.int .i64 k) ∧ w'.cell? ⟨w2.heap.size, 1, none⟩ = some (.slice (some ⟨g, 0, none⟩) ms.length cap))
          (first | (refine ⟨?_, ?_⟩ <;> first | assumption | ((repeat (first | (with_reducible refine (cell_drewX _ _).trans ?_) | (with_reducible refine (cell_drewNX _ _ _).trans ?_) | (with_reducible refine (World.cell?_alloc_lt _ _ _ (by first | (simp; done) | (simp; omega))).trans ?_))); assumption) | go_keep) | assumption)
          (first
            | (refine st_keep (by rfl) (.tmp 37) (.tmp 39) 23 (by rfl) rfl Mi.out Mz0.out Mz1.out Mz2.out (w0 := w4) (ns := mcells [(0, k), (5, 0)]) (by (repeat (first | exact H1.out | exact St.nil w4 _ | (with_reducible apply St.row) | (with_reducible apply St.lay4) | (with_reducible apply St.claim) | (with_reducible apply St.drewN) | (with_reducible apply St.drew)))) (by first | rfl | (rw [size_allocX]; rfl) | (rw [size_allocX, size_allocX]; rfl)) (by first | rfl | (rw [size_allocX]; rfl) | (rw [size_allocX, size_allocX]; rfl)) rfl Ho4.out ?_ ?_
               go_must (omega)
               go_must (intro v1 wa hh
                        try simp only [size_allocX] at hh
                        have n0wa := ((hh.1).cell_far ⟨w2.heap.size, 0, none⟩ hs4 (by simp)).trans t1
                        have n1wa := ((hh.1).cell_far ⟨w2.heap.size, 1, none⟩ hs4 (by simp)).trans t2
                        have hsa := hh.1.size
                        have hnq0a : ¬ w2.heap.size = wa.heap.size := by omega
                        have hnq0b : ¬ wa.heap.size = w2.heap.size := by omega
                        have hnq1a : ¬ w2.heap.size = wa.heap.size + 1 := by omega
                        have hnq1b : ¬ wa.heap.size + 1 = w2.heap.size := by omega
                        have hnq2a : ¬ w2.heap.size = wa.heap.size + 1 + 1 := by omega
                        have hnq2b : ¬ wa.heap.size + 1 + 1 = w2.heap.size := by omega
                        have H1 := Lib.hid hh; clear hh))
            | (refine st_last (by rfl) (.tmp 40) (.tmp 45) 23 (by rfl) rfl Mi.out Mz0.out Mz1.out Mz2.out (w0 := w4) (ns := [(0, k), (5, 0)]) (m := 2) (by (repeat (first | exact H1.out | exact St.nil w4 _ | (with_reducible apply St.row) | (with_reducible apply St.lay4) | (with_reducible apply St.claim) | (with_reducible apply St.drewN) | (with_reducible apply St.drew)))) (by first | rfl | (rw [size_allocX]; rfl) | (rw [size_allocX, size_allocX]; rfl)) (by first | rfl | (rw [size_allocX]; rfl) | (rw [size_allocX, size_allocX]; rfl)) rfl ?_ ?_
               go_must (omega)
               go_must (intro v2 wb hh
                        rw [Nat.zero_add, List.nil_append] at hh
                        try simp only [size_allocX] at hh
                        have n0wb := ((hh.1).cell_far ⟨w2.heap.size, 0, none⟩ hs4 (by simp)).trans t1
                        have n1wb := ((hh.1).cell_far ⟨w2.heap.size, 1, none⟩ hs4 (by simp)).trans t2
                        obtain ⟨a2, c2, hv2⟩ := own_len (hh.2.1 _ _ _ rfl)
                        subst hv2
                        have H2 := Lib.hid hh; clear hh
                        try (have hbx := St.boxAt H2.out
                             try simp only [size_allocX] at hbx
                             have HBX := Lib.hid hbx
                             obtain ⟨y1, y2, y3, y4, y5⟩ := hbx)))
            | fail)
        all_goals
          go_wp2
          go_meet
          case rel => first
            | (obtain ⟨w6, e6, hx6, hg6⟩ := HBX.out.set (.int .i64 k) (.slice a2 (ms.length + 2) c2)
               rw [← e6]
               exact ⟨_, a2, c2, by first | exact (H2.out.2.2.2.1 _ rfl).1 | simpa only [size_allocX] using (H2.out.2.2.2.1 _ rfl).1, by first | rfl | simp, hx6, (H2.out.ended hg6).1, (H2.out.ended hg6).2⟩)
            | (obtain ⟨w6, e6, hx6, hb6, _⟩ := Box.new wb (.int .i64 k) (.slice a2 (ms.length + 2) c2) TC
               rw [← e6]
               exact ⟨_, a2, c2, H2.out.1.size, by first | rfl | simp, hx6, (H2.out.ended0 hb6).1, (H2.out.ended0 hb6).2⟩)
      case rest =>
      rename World => w5
      obtain ⟨A, a5, c5, hA4, rfl, hxA, ho5, hg5⟩ := hcut
      have hb5 := below_none hg5
      obtain ⟨g5, cap5, hf5⟩ := ownsRow_form ho5 (by omega)
      cases hf5
      have Hr5 : Hid (RdMarks w5 w5.heap.size (.slice (some ⟨g5, 0, none⟩) (ms.length + 2) c5) (ms ++ [((0 : Int), k), (5, 0)])) := by
        refine RdMarks.of_own (base := w4.heap.size) (e := TM) ?_ HI.out
        rw [mcells_append, List.length_append]
        exact ho5
      have hx5 := HX4.out.below hb5
      have hy5 := HY4.out.below hb5
      have Ho5 := Lib.hid ho5
      have HG5 := Lib.hid (grown_own HG4.out hg5 (fun q hq => by cases hq))
      have Hrd5 := Lib.hid (Hrd4.out.kept fun q hq => hb5.block q (by have := Hrd4.out.lt; omega))
      have Ho45 := Lib.hid (own_below Ho4.out hb5)
      have HXA := Lib.hid hxA
      have HX5 := Lib.hid hx5
      have HY5 := Lib.hid hy5
      obtain ⟨u1, u2, u3, u4, u5⟩ := hxA
      clear t1 t2 t3 t4 t5 hb5 hg5 ho5 hx5 hy5
      cases hok : claimOk p (k, ms ++ [(0, k), (5, 0)]) with
      | true =>
        have hl13 : (ms ++ [((0 : Int), k), (5, 0)]).length ≤ 13 := (claimOk_iff.1 hok).2.2.2
        rw [hok] at hc2
        have Hc2 := Lib.hid hc2; clear hc2 hok
        go_wp2_with fail
        refine (Hc2.out w5.heap.size _ w5 Hr5.out (Nat.le_refl _)).mono ?_
        rintro e w6 ⟨rfl, hb6⟩
        obtain ⟨r1, r2, r3, r4, r5⟩ := HXA.out.below hb6
        have hx6 := HX5.out.below hb6
        have ho6 := own_below Ho5.out hb6
        have hlen2 : ms.length + 2 = (ms ++ [((0 : Int), k), (5, 0)]).length := by rw [List.length_append]; rfl
        have ho6' : w6.ownsRow w4.heap.size TM 2 (.slice (some ⟨g5, 0, none⟩) (ms ++ [((0 : Int), k), (5, 0)]).length c5) (ms ++ [((0 : Int), k), (5, 0)]).length (mcells (ms ++ [((0 : Int), k), (5, 0)])) := by
          rw [← hlen2, mcells_append]; exact ho6
        have hG6 : w.grownBy w6 (some b) := grownBy_trans HG5.out ⟨hb6.os, hb6.tape, hb6.output, hb6.size, fun i hi _ => hb6.block i hi⟩
        have hrd6 := Hrd5.out.kept (w' := w6) fun q hq => hb6.block q (by have := Hrd5.out.lt; omega)
        obtain ⟨q1, q2, q3, q4, q5⟩ := hx6
        have Hdone := Lib.hid (odd_done (c := c + 200) hbw hw4s (show Box w6 w.heap.size _ _ from ⟨q1, q2, q3, q4, q5⟩) hG6 hrd6 ho6' HI.out (by omega) hk1 hk4 hp1 hp4 (by omega))
        rw [← hlen2] at Hdone
        clear u1 u2 u3 u4 u5 hb6 ho6 ho6' hG6 hrd6 hlen2 hl13
        obtain ⟨w9, e9, hx9, hout⟩ := Hdone.out
        have E9 := Lib.hid e9
        have Hout := Lib.hid hout
        have hne1 : ¬ A = w.heap.size := by omega
        have hne2 : ¬ w.heap.size = A := by omega
        clear e9 hout
        go_wp2_with fail
        go_region_held3 (fun w' => w'.cell? ⟨A, 0, none⟩ = some (.int .i64 k) ∧ w'.cell? ⟨A, 1, none⟩ = some (.slice (some ⟨g5, 0, none⟩) (ms.length + 2) c5))
          (first | (refine ⟨?_, ?_⟩ <;> first | go_keep | assumption) | assumption)
          (fail)
        go_wp2
        rw [← E9.out]
        obtain ⟨z1, z2, _⟩ := hx9
        first | exact bodyPost_ret (by simp [results, Try.results67, go_sem, z1, z2]) rfl Hout.out | exact bodyPost_ret (by simp [results, Try.results67, go_sem, z1, z2]) rfl Hout.out.drew
      | false =>
        rw [hok] at hc2
        have Hc2 := Lib.hid hc2; clear hc2 hok
        go_wp2_with fail
        refine (Hc2.out w5.heap.size _ w5 Hr5.out (Nat.le_refl _)).mono ?_
        rintro e w6 ⟨rfl, hb6⟩
        have hx6 := HX5.out.below hb6
        obtain ⟨r1, r2, r3, r4, r5⟩ := HY5.out.below hb6
        have ho6 := own_below Ho45.out hb6
        have hG6 : w.grownBy w6 (some b) := grownBy_trans HG5.out ⟨hb6.os, hb6.tape, hb6.output, hb6.size, fun i hi _ => hb6.block i hi⟩
        have hrd6 := Hrd5.out.kept (w' := w6) fun q hq => hb6.block q (by have := Hrd5.out.lt; omega)
        obtain ⟨q1, q2, q3, q4, q5⟩ := hx6
        have Hdone := Lib.hid (odd_done (c := c + 200) hbw hsz (show Box w6 w.heap.size _ _ from ⟨q1, q2, q3, q4, q5⟩) hG6 hrd6 ho6 Hi.out hn20 hk1 hk4 hp1 hp4 (by omega))
        clear u1 u2 u3 u4 u5 hb6 ho6 hG6 hrd6
        obtain ⟨w9, e9, hx9, hout⟩ := Hdone.out
        have E9 := Lib.hid e9
        have Hout := Lib.hid hout
        have hne1 : ¬ w2.heap.size = w.heap.size := by omega
        have hne2 : ¬ w.heap.size = w2.heap.size := by omega
        clear e9 hout
        go_wp2_with fail
        go_region_held3 (fun w' => w'.cell? ⟨w2.heap.size, 0, none⟩ = some (.int .i64 k) ∧ w'.cell? ⟨w2.heap.size, 1, none⟩ = some (.slice (some ⟨g, 0, none⟩) ms.length cap))
          (first | (refine ⟨?_, ?_⟩ <;> first | go_keep | assumption) | assumption)
          (fail)
        go_wp2
        rw [← E9.out]
        obtain ⟨z1, z2, _⟩ := hx9
        first | exact bodyPost_ret (by simp [results, Try.results67, go_sem, z1, z2]) rfl Hout.out | exact bodyPost_ret (by simp [results, Try.results67, go_sem, z1, z2]) rfl Hout.out.drew
    · obtain ⟨t1, t2, t3, t4, t5⟩ := hy4
      obtain ⟨q1, q2, q3, q4, q5⟩ := hx4
      have hw14 : w.heap.size < w1.heap.size := hsz
      have Hdone := Lib.hid (odd_done (c := c + 200) hbw hw14 (show Box w4 w.heap.size _ _ from ⟨q1, q2, q3, q4, q5⟩) HG4.out Hrd4.out Ho4.out Hi.out hn20 hk1 hk4 hp1 hp4 (by omega))
      obtain ⟨w9, e9, hx9, hout⟩ := Hdone.out
      have E9 := Lib.hid e9
      have Hout := Lib.hid hout
      have hne1 : ¬ w2.heap.size = w.heap.size := by omega
      have hne2 : ¬ w.heap.size = w2.heap.size := by omega
      clear e9 hout
      go_wp2_with fail
      go_region_held3 (fun w' => w'.cell? ⟨w2.heap.size, 0, none⟩ = some (.int .i64 k) ∧ w'.cell? ⟨w2.heap.size, 1, none⟩ = some (.slice (some ⟨g, 0, none⟩) ms.length cap))
        (first | (refine ⟨?_, ?_⟩ <;> first | go_keep | assumption) | assumption)
        (fail)
      go_wp2
      rw [← E9.out]
      obtain ⟨z1, z2, _⟩ := hx9
      first | exact bodyPost_ret (by simp [results, Try.results67, go_sem, z1, z2]) rfl Hout.out | exact bodyPost_ret (by simp [results, Try.results67, go_sem, z1, z2]) rfl Hout.out.drew
set_option maxHeartbeats 1000000 in
theorem drawNeverSaid (a : Value) (n : Nat) (w : World) (hr : RdBytes w w.heap.size a n) :
    Calls Try.prog 25 #[a] w (OutC w) := by
  go_enter Try.func25, Try.ntmps25
  go_upto_region 1 with fail
  obtain ⟨w1, hw1, hx1, hbw1, hsz⟩ := Box.new w (.int .i64 0) (.slice none 0 0) TC
  have Hr1 := Lib.hid (hr.up hbw1)
  rw [← hw1]
  clear hw1 hr
  go_wp2_with fail
  refine (l20Open _ _ _ Hr1.out).mono ?_
  rintro e w2 ⟨b, rfl, hb, hrd2, hbel⟩
  have hx2 := hx1.below hbel
  have hB2 := hbw1.trans (hbel.mono hbw1.size)
  have hs2 := hB2.size
  clear hbel hx1 hbw1 Hr1
  go_wp2_with fail
  refine (l20Odd b 0 _ hrd2 (by omega)).mono ?_
  rintro e w3 ⟨p, k, g, cap, ms, hp1, hp4, rfl, hown, hi, hn20, hk1, hk4, hrd3, hg3⟩
  have hx3 := hx2.grown hg3 (by simp; omega)
  obtain ⟨w4, e4, hx4, hg4⟩ := hx3.set (.int .i64 k) (.slice (some ⟨g, 0, none⟩) ms.length cap)
  have hsz2 := hx2.2.2.2.2
  have hout : OutC w (.returned (.tuple #[.int .i64 p, .agg #[.int .i64 k, .slice (some ⟨g, 0, none⟩) ms.length cap]])) w4 :=
    ⟨p, k, g, cap, ms, hp1, by omega, rfl, own_mono (own_row hown hg4 hsz2) hs2, hi, hn20, hk1, hk4, below_row (below_row hB2 hg3 (fun q hq => by cases hq; omega)) hg4 (fun q hq => by cases hq; exact Nat.le_refl _)⟩
  have Hout := Lib.hid hout
  have E4 := Lib.hid e4
  obtain ⟨x1, x2, x3, x4, x5⟩ := hx3
  clear hg3 hx2 hrd2 hout hown hi hg4 e4 hrd3 hB2
  go_wp2
  rw [← E4.out]
  obtain ⟨z1, z2, _⟩ := hx4
  exact bodyPost_ret (by simp [results, Try.results25, go_sem, z1, z2]) rfl Hout.out
set_option maxHeartbeats 1000000 in
theorem drawAlwaysSaid (a : Value) (n : Nat) (w : World) (hr : RdBytes w w.heap.size a n) :
    Calls Try.prog 30 #[a] w (OutC w) := by
  go_enter Try.func30, Try.ntmps30
  go_upto_region 1 with fail
  obtain ⟨w1, hw1, hx1, hbw1, hsz⟩ := Box.new w (.int .i64 0) (.slice none 0 0) TC
  have Hr1 := Lib.hid (hr.up hbw1)
  rw [← hw1]
  clear hw1 hr
  go_wp2_with fail
  refine (l20Open _ _ _ Hr1.out).mono ?_
  rintro e w2 ⟨b, rfl, hb, hrd2, hbel⟩
  have hx2 := hx1.below hbel
  have hB2 := hbw1.trans (hbel.mono hbw1.size)
  have hs2 := hB2.size
  clear hbel hx1 hbw1 Hr1
  go_wp2_with fail
  refine (l20Odd b 0 _ hrd2 (by omega)).mono ?_
  rintro e w3 ⟨p, k, g, cap, ms, hp1, hp4, rfl, hown, hi, hn20, hk1, hk4, hrd3, hg3⟩
  have hx3 := hx2.grown hg3 (by simp; omega)
  obtain ⟨w4, e4, hx4, hg4⟩ := hx3.set (.int .i64 k) (.slice (some ⟨g, 0, none⟩) ms.length cap)
  have hsz2 := hx2.2.2.2.2
  have hout : OutC w (.returned (.tuple #[.int .i64 p, .agg #[.int .i64 k, .slice (some ⟨g, 0, none⟩) ms.length cap]])) w4 :=
    ⟨p, k, g, cap, ms, hp1, by omega, rfl, own_mono (own_row hown hg4 hsz2) hs2, hi, hn20, hk1, hk4, below_row (below_row hB2 hg3 (fun q hq => by cases hq; omega)) hg4 (fun q hq => by cases hq; exact Nat.le_refl _)⟩
  have Hout := Lib.hid hout
  have E4 := Lib.hid e4
  obtain ⟨x1, x2, x3, x4, x5⟩ := hx3
  clear hg3 hx2 hrd2 hout hown hi hg4 e4 hrd3 hB2
  go_wp2
  rw [← E4.out]
  obtain ⟨z1, z2, _⟩ := hx4
  exact bodyPost_ret (by simp [results, Try.results30, go_sem, z1, z2]) rfl Hout.out
end Go.Proofs.Ytpccldbcmanhdaa

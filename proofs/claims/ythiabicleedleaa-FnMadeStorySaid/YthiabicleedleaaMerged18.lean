/- Texts of a proof, merged: DrawMh, LawsA, DrawMd, MadeS, Clone. -/
import Derived.Test.YthiabicleedleaaDrawM
import Derived.Test.YthiabicleedleaaMerged6
import Derived.Test.YthiabicleedleaaMerged4
import Derived.Test.YthiabicleedleaaDraw
import Derived.WalkKit
import Derived.ProofKit
import Derived.Test.YthiabicleedleaaMerged16
import Derived.OwnWalk
import Derived.Test.YthiabicleedleaaMerged11
/- The reference model's drawn terms, where more people are given than four. -/
namespace Go.Proofs.Ythiabicleedleaa
open Go.RowKit Go.Joins
set_option maxRecDepth 100000 in
set_option maxHeartbeats 2000000 in
theorem l20TermHi (p : Int) (n : Nat) (b c : Nat) (w : World) (hrd : Rd w b c) (hp1 : 5 ≤ p) (hp4 : p ≤ 8) (hn : n ≤ 1099511627776) (hc : c ≤ 549755813888) :
    Calls Try.prog 37 #[.pointer (some ⟨b, 0, none⟩), .int .i64 p, .int .i64 n] w (DrewM b (c + 100) w) := by
  obtain ⟨i1, hi, hz0, hz1, hz2⟩ := info_parts Try.infoS
  have Hi := Lib.hid hi; clear hi
  have Hz0 := Lib.hid hz0; clear hz0
  have Hz1 := Lib.hid hz1; clear hz1
  have Hz2 := Lib.hid hz2; clear hz2
  obtain ⟨im, hmi, hmz0, hmz1, hmz2⟩ := info_parts Try.infoM
  have Mi := Lib.hid hmi; clear hmi
  have Mz0 := Lib.hid hmz0; clear hmz0
  have Mz1 := Lib.hid hmz1; clear hmz1
  have Mz2 := Lib.hid hmz2; clear hmz2
  have hbw := hrd.lt
  have Hrd := Lib.hid hrd; clear hrd
  have hp : 4 < p := by omega
  have hp' : ¬ p < 1 := by omega
  clear hp1
  go_enter Try.func37, Try.ntmps37
  go_wp2_with fail
  refine (pick _ _ _ _ (Hrd.out.alloc _) (by omega) (by omega) (by omega)).mono ?_
  rintro e w1 ⟨x, hx0, hx1, rfl, hrd1, hg1⟩
  have hG1 : w.grownBy w1 (some b) := grownBy_trans (only_alloc (World.grownBy.refl _ _) _) hg1
  have hown1 : w1.ownsRow w.heap.size TS 1 (.slice (some ⟨w.heap.size, 0, none⟩) 0 0) 0 [] :=
    own_row (World.ownsRow_made _ _ 0 (Nat.le_refl _) (by unfold maxLen; omega) rfl) hg1 hbw
  obtain ⟨X, rfl⟩ := Int.eq_ofNat_of_zero_le hx0
  clear hg1
  go_wp2_with fail
  go_loopw [7, 8] (fun v i wr => ∃ (k : Nat) (ps : List (Value × List (Int × Int))), k + ps.length ≤ 4 ∧ 1 ≤ k + ps.length ∧ i = .int .i64 k ∧ PartsIn wr w.heap.size v ps ∧ tot ps = ps.length ∧ Rd wr b (c + 1 + 2 * ps.length) ∧ w.grownBy wr (some b))
    (fun _ i _ => (intOf i).toNat)
  case atStart => exact ⟨X + 1, [], by simp; omega, by simp, by go_num, ⟨hown1, by simp⟩, rfl, hrd1, hG1⟩
  case round =>
    obtain ⟨k, ps, hk, hk1, rfl, hps, htot, hrk, hGk⟩ := hrel
    by_cases hlt : 0 < k
    · obtain ⟨k, rfl⟩ : ∃ j, k = j + 1 := ⟨k - 1, by omega⟩
      go_wp2_with fail
      refine (pick _ _ _ _ hrk (by omega) (by omega) (by omega)).mono ?_
      rintro e w3 ⟨y, hy0, hy1, rfl, hrk3, hg3⟩
      have hps3 := hps.row hg3 hbw
      have hG3 := grownBy_trans hGk hg3
      have Htot := Lib.hid htot
      clear hrk hGk hg3 hps htot
      by_cases hy : y = 0
      · have hyb : (y == 0) = true := by rw [beq_iff_eq]; exact hy
        clear hy hy0 hy1
        go_wp2_with fail
        refine (pick _ _ _ _ hrk3 (by omega) (by omega) (by omega)).mono ?_
        rintro e w4 ⟨z, hz0, hz1, rfl, hrk4, hg4⟩
        have hps4 := hps3.row hg4 hbw
        have hG4 := grownBy_trans hG3 hg4
        clear hrk3 hG3 hg4 hps3
        have hsz4 := hG4.size
        go_wp2_with (at_builtin; refine wpList_append_own _ rfl _ _ 23 rfl w.heap.size TS i1 (.slice none 0 0) 1 24 Try.underlying23 Hi.out Hz0.out Hz1.out Hz2.out rfl (by decide) _ _ _ rfl ((hps4.1.alloc _).alloc _) ⟨w4.heap.size + 1, 0, none⟩ 1 1 [.slice (some ⟨w4.heap.size, 0, none⟩) 1 1] rfl rfl (news1 _ _ (by simp) _ _) (by simp [Value.oneCell']) (by unfold maxLen; omega) (by omega) (by simp; omega) ?_)
        intro v' w5 hown' hgrow _
        have hall := part_added hbw hps4 (I64_small (by omega) (by omega)) (I64_small (by omega) (by omega)) hG4 hrk4 hown' hgrow
        have Hall := Lib.hid hall
        clear hall hown' hgrow hps4 hrk4 hG4 hsz4
        go_wp2
        go_roundw
        case rel => exact ⟨k, _, by simp; omega, by simp; omega, by go_num, Hall.out.1, by rw [tot_snoc, Htot.out]; simp, Hall.out.2.2.mono (by simp; omega), Hall.out.2.1⟩
        case measure => simp [intOf]
      · have hyb : (y == 0) = false := by rw [beq_eq_false_iff_ne]; exact hy
        clear hy hy0 hy1
        go_wp2_with fail
        refine (pick _ _ _ _ hrk3 (by omega) (by omega) (by omega)).mono ?_
        rintro e w4 ⟨z, hz0, hz1, rfl, hrk4, hg4⟩
        have hps4 := hps3.row hg4 hbw
        have hG4 := grownBy_trans hG3 hg4
        clear hrk3 hG3 hg4 hps3
        have hsz4 := hG4.size
        go_wp2_with (at_builtin; refine wpList_append_own _ rfl _ _ 23 rfl w.heap.size TS i1 (.slice none 0 0) 1 24 Try.underlying23 Hi.out Hz0.out Hz1.out Hz2.out rfl (by decide) _ _ _ rfl ((hps4.1.alloc _).alloc _) ⟨w4.heap.size + 1, 0, none⟩ 1 1 [.slice (some ⟨w4.heap.size, 0, none⟩) 1 1] rfl rfl (news1 _ _ (by simp) _ _) (by simp [Value.oneCell']) (by unfold maxLen; omega) (by omega) (by simp; omega) ?_)
        intro v' w5 hown' hgrow _
        have hall := part_added hbw hps4 (I64_small (by omega) (by omega)) (I64_small (by omega) (by omega)) hG4 hrk4 hown' hgrow
        have Hall := Lib.hid hall
        clear hall hown' hgrow hps4 hrk4 hG4 hsz4
        go_wp2
        go_roundw
        case rel => exact ⟨k, _, by simp; omega, by simp; omega, by go_num, Hall.out.1, by rw [tot_snoc, Htot.out]; simp, Hall.out.2.2.mono (by simp; omega), Hall.out.2.1⟩
        case measure => simp [intOf]
    · obtain rfl : k = 0 := by omega
      have htot1 : tot ps + ps.length + 3 ≤ 11 := by omega
      have hlen1 : 1 ≤ ps.length := by omega
      have hlen4 : ps.length ≤ 4 := by omega
      have hrk' := hrk.mono (show c + 1 + 2 * ps.length ≤ c + 9 by omega)
      clear htot hk hk1 hrk hlt
      rw [show ((0 : Nat) : Int) = 0 from rfl]
      go_wp2_with fail
      go_loopw [7, 9] (fun v i wr => ∃ (l d : Nat) (ps : List PQ), i = .int .i64 l ∧ PartsIn wr w.heap.size v ps ∧ 1 ≤ ps.length ∧ tot ps + ps.length + l ≤ 11 ∧ Rd wr b (c + d) ∧ d + 4 * (ps.length + l) ≤ 40 ∧ w.grownBy wr (some b))
        (fun v i _ => lenV v + (intOf i).toNat)
      case atStart => exact ⟨3, 9, ps, rfl, hps, hlen1, htot1, hrk', by omega, hGk⟩
      case round =>
        clear hps hlen1 hlen4 htot1 hrk' hGk
        obtain ⟨l, d, ps, rfl, hps, hlen1, htot, hrk, hd, hGk⟩ := hrel
        obtain ⟨g, cap, rfl⟩ := ownsRow_form hps.1 (by omega)
        by_cases hmore : 1 < ps.length
        · have hmore' : (1 : Int) < (ps.length : Int) := by omega
          go_wp2_with fail
          refine (pick _ _ _ _ hrk (by omega) (by omega) (by omega)).mono ?_
          rintro e w3 ⟨y, hy0, hy1, rfl, hrk3, hg3⟩
          have hps3 := hps.row hg3 hbw
          have hG3 := grownBy_trans hGk hg3
          clear hrk hGk hg3 hps
          obtain ⟨Y, rfl⟩ := Int.eq_ofNat_of_zero_le hy0
          by_cases hl : 0 < l
          · obtain ⟨l, rfl⟩ : ∃ j, l = j + 1 := ⟨l - 1, by omega⟩
            go_wp2_with fail
            refine (pick _ _ _ _ hrk3 (by omega) (by omega) (by omega)).mono ?_
            rintro e w4 ⟨z, hz0, hz1, rfl, hrk4, hg4⟩
            have hps4 := hps3.row hg4 hbw
            have hG4 := grownBy_trans hG3 hg4
            clear hrk3 hG3 hg4 hps3
            by_cases hz : z = 0
            · have hzb : (z == 0) = true := by rw [beq_iff_eq]; exact hz
              clear hz hz0 hz1
              obtain ⟨gq, cq, hcell, _, hpos, hi64, hownq⟩ := parts_at hps4 (show Y < ps.length by omega)
              have hle := tot_le (show Y < ps.length by omega)
              have hgw : g < w4.heap.size := World.block_lt_of_cell? w4 _ hcell
              have Hps4 := Lib.hid hps4; clear hps4
              have hpart : Hid (∀ (v2 : Value) (w6 : World), w4.grownBy w6 (some b) → w6.ownsRow w4.heap.size TM 2 v2 ((ps.getD Y pq0).2.length + 1) (mcells (ps.getD Y pq0).2 ++ mcells [(2, 0)]) →
                  ∃ ps' : List PQ, PartsIn (w6.setCell ⟨g, Y, none⟩ v2) w.heap.size (.slice (some ⟨g, 0, none⟩) ps'.length cap) ps' ∧ ps'.length = ps.length ∧ tot ps' = tot ps + 1) :=
                fun v2 w6 hg6 ho6 => part_not hbw Hps4.out (by omega) (I64_small (by omega) (by omega)) hG4.size hg6 ho6
              generalize ps.getD Y pq0 = q at *
              obtain ⟨qv, mq⟩ := q
              dsimp only at hcell hpos hi64 hownq hle hpart
              have Hownq := Lib.hid hownq; clear hownq
              have hG4s := hG4.size
              clear hi64
              go_wp2_with (first
                | (at_builtin; refine wpList_append_own _ rfl (.tmp 64) (.tmp 68) 31 rfl w4.heap.size TM im (.agg #[.int .i64 0, .int .i64 0]) 2 16 Try.underlying31 Mi.out Mz0.out Mz1.out Mz2.out rfl (by decide) (.slice (some ⟨w4.heap.size, 0, none⟩) 0 0) 0 [] rfl (World.ownsRow_made w4 #[] 0 (Nat.le_refl _) (by unfold maxLen; omega) rfl) ⟨gq, 0, none⟩ mq.length cq (mcells mq) rfl (mcells_length _) ((Hownq.out.alloc _).cells (g := gq) rfl) (mcells_one _) (by unfold maxLen; omega) (by omega) (by simp) ?_; intro v1 w5 hown1 hgr1 _; simp only [Nat.zero_add, List.nil_append] at hown1; have hsz5 : w4.heap.size ≤ w5.heap.size := Nat.le_trans (by simp) hgr1.size; have Hgr1 := Lib.hid hgr1; clear hgr1)
                | (at_builtin; refine wpList_append_own _ rfl (.tmp 69) (.tmp 71) 31 rfl w4.heap.size TM im (.agg #[.int .i64 0, .int .i64 0]) 2 16 Try.underlying31 Mi.out Mz0.out Mz1.out Mz2.out rfl (by decide) v1 mq.length (mcells mq) rfl (hown1.alloc _) ⟨w5.heap.size, 0, none⟩ 1 1 (mcells [(2, 0)]) rfl rfl (news2 _ _ rfl _ _ _) (mcells_one _) (by unfold maxLen; omega) (by omega) (by simp; omega) ?_; intro v2 w6 hown2 hgr2 _
                   have hG6 : w4.grownBy w6 none := grown2 Hgr1.out hgr2 (fun k hk => by simp [Value.ownBlock] at hk; omega) (fun k hk => (hown1.lt k hk).1)
                   have hps6 := Hps4.out.row (grown_any hG6) hbw
                   have hgb := (hps6.1.lt g rfl).1
                   have Hr6 := Lib.hid ((hrk4.grown hG6 (by simp)).set (g := g) (y := Y) (u := v2) (by omega))
                   have HG6 := Lib.hid (grown_own (grownBy_trans hG4 (grown_any hG6)) (grownBy_setCell (w := w6) g Y v2) (fun k hk => by cases hk; exact hgb))
                   have hfz6 := hps6.1.frozenAt Y
                   obtain ⟨u6, hu6⟩ : ∃ u, w6.cell? ⟨g, Y, none⟩ = some u := ⟨_, by rw [hps6.1.cellAt _ (by omega)]; exact List.getElem?_eq_getElem (by simp; omega)⟩
                   have Hdone := Lib.hid (hpart.out v2 w6 (grown_any hG6) hown2)
                   obtain ⟨g2, cap2, rfl⟩ := ownsRow_form hown2 (by omega)
                   clear hps6 hG6 hown2 hgr2 hown1))
              clear Hps4 hpart Hownq Hgr1
              go_roundw
              case rel =>
                obtain ⟨ps', hp', hl', ht'⟩ := Hdone.out
                exact ⟨l, d + 2, ps', by go_num, by rw [← hl']; exact hp', by omega, by omega, Hr6.out.mono (by omega), by omega, HG6.out⟩
              case measure => simp [intOf, lenV]
            · have hzb : (z == 0) = false := by rw [beq_eq_false_iff_ne]; exact hz
              clear hz hz0 hz1
              have hgw : g < w4.heap.size := (hps4.1.lt g rfl).2
              have hgb : ¬ g = b := by have := (hps4.1.lt g rfl).1; omega
              obtain ⟨hcap1, hcap2⟩ := own_cap hps4.1
              obtain ⟨gq, cq, hcq, _, hpq, hiq, howq⟩ := parts_at hps4 (show Y < ps.length by omega)
              obtain ⟨gr, cr, hcr, _, hpr, hir, howr⟩ := parts_at hps4 (show Y + 1 < ps.length by omega)
              have hleq := tot_le (show Y < ps.length by omega)
              have hler := tot_le (show Y + 1 < ps.length by omega)
              have hG4s := hG4.size
              have hjoin : Hid (∀ (w8 w9 : World) (vb v9 : Value) (k n9 : Nat) (kd : Int) (xs9 : List Value), I64 kd → w4.grownBy w8 (some b) → w8.grownBy w9 none →
                  w8.ownsRow w4.heap.size TM 2 vb k (mcells (ps.getD Y pq0).2 ++ mcells (ps.getD (Y + 1) pq0).2 ++ mcells [(kd, 0)]) → k = (ps.getD Y pq0).2.length + (ps.getD (Y + 1) pq0).2.length + 1 →
                  w9.ownsRow w8.heap.size TS 1 v9 n9 xs9 → n9 = ps.length - 1 → xs9 = (ps.map (·.1)).take Y ++ [vb] ++ (ps.map (·.1)).drop (Y + 2) →
                  ∃ ps' : List PQ, PartsIn w9 w.heap.size v9 ps' ∧ ps'.length + 1 = ps.length ∧ tot ps' = tot ps + 1) :=
                fun w8 w9 vb v9 k n9 kd xs9 hk h8 h9 ho hkk hr hn hx => part_join hbw hps4 (by omega) hk hG4s h8 h9 ho hkk (hn ▸ hr) hx
              have Hps4 := Lib.hid hps4; clear hps4
              have HG4 := Lib.hid hG4; clear hG4
              generalize ps.getD Y pq0 = q at *
              generalize ps.getD (Y + 1) pq0 = r at *
              obtain ⟨qv, mq⟩ := q
              obtain ⟨rv, mr⟩ := r
              dsimp only at hcq hpq hiq howq hleq hcr hpr hir howr hler hjoin
              have Howq := Lib.hid howq; clear howq
              have Howr := Lib.hid howr; clear howr
              clear hiq hir
              have a1 : 0 + mq.length ≤ maxLen := by unfold maxLen; omega
              have a2 : (0 + mq.length) * 16 ≤ 140737488355328 := by omega
              have a3 : mq.length + mr.length ≤ maxLen := by unfold maxLen; omega
              have a4 : (mq.length + mr.length) * 16 ≤ 140737488355328 := by omega
              have a5 : mq.length + mr.length + 1 ≤ maxLen := by unfold maxLen; omega
              have a6 : (mq.length + mr.length + 1) * 16 ≤ 140737488355328 := by omega
              have c3 : c + d + 1 + 1 ≤ 1099511627776 := by omega
              have hbw4 : b < w4.heap.size := by omega
              go_wp2_with fail
              have b1 : Y < ps.length := by omega
              have b2 : (0 : Int) ≤ (Y : Int) := by omega
              have b3 : (Y : Int) < (ps.length : Int) := by omega
              have b4 : Y + 1 < ps.length := by omega
              have b5 : (0 : Int) ≤ (Y : Int) + 1 := by omega
              have b6 : (Y : Int) + 1 < (ps.length : Int) := by omega
              have b7 : ((Y : Int) + 1).toNat = Y + 1 := by omega
              have b8 : IntKind.i64.wrap ((Y : Int) + 1) = (Y : Int) + 1 := IntWalk.i64_in _ (by omega)
              go_region_held3 (fun w' => w'.cell? ⟨g, Y, none⟩ = some (.slice (some ⟨gq, 0, none⟩) mq.length cq) ∧ w'.cell? ⟨g, Y + 1, none⟩ = some (.slice (some ⟨gr, 0, none⟩) mr.length cr))
                (first | go_keep | exact ⟨by assumption, by assumption⟩)
                (first
                  | (refine step_append_lies _ (by rfl) (.tmp 74) (.tmp 78) _ (by rfl) w4.heap.size TM im (.agg #[.int .i64 0, .int .i64 0]) 2 16 Try.underlying31 Mi.out Mz0.out Mz1.out Mz2.out rfl (by omega) (.slice (some ⟨w4.heap.size, 0, none⟩) 0 0) 0 [] (by rfl) ?_ ⟨gq, 0, none⟩ mq.length cq (mcells mq) (by rfl) (mcells_length _) ?_ (mcells_one _) hpq a1 a2 ?_ (w4.heap.size + 1) ?_ ?_
                     go_must (exact World.ownsRow_made w4 #[] 0 (Nat.le_refl _) (Nat.zero_le _) rfl)
                     go_must (exact (Howq.out.alloc _).cells (g := gq) rfl)
                     go_must (simp)
                     go_must (first | rfl | simp)
                     go_must (intro g1 cap1 w5 hown1 hgr1 hat1 hlt1
                              simp only [Nat.zero_add, List.nil_append] at hown1 ⊢
                              have hG5 : w4.grownBy w5 none := grown_own (only_alloc (World.grownBy.refl _ _) _) (by first | exact hgr1 | exact grownBy_drew0 hgr1 | exact grownBy_drewX hgr1) (fun k hk => by simp [Value.ownBlock] at hk; omega)
                              have k51 := (hG5.cell_far ⟨g, Y, none⟩ hgw (by simp)).trans hcq
                              have k52 := (hG5.cell_far ⟨g, Y + 1, none⟩ hgw (by simp)).trans hcr
                              have hs5 := hG5.size
                              have hg1w : w4.heap.size ≤ g1 := (hown1.lt g1 rfl).1
                              have Hown1 := Lib.hid hown1
                              have Howr5 := Lib.hid (own_row Howr.out (grown_any hG5) hbw)
                              have HG5 := Lib.hid hG5
                              clear hown1 hgr1 hat1 hG5))
                  | (refine step_append_lies _ (by rfl) (.tmp 79) (.tmp 84) _ (by rfl) w4.heap.size TM im (.agg #[.int .i64 0, .int .i64 0]) 2 16 Try.underlying31 Mi.out Mz0.out Mz1.out Mz2.out rfl (by omega) (.slice (some ⟨g1, 0, none⟩) mq.length cap1) mq.length (mcells mq) (by rfl) ?_ ⟨gr, 0, none⟩ mr.length cr (mcells mr) (by rfl) (mcells_length _) ?_ (mcells_one _) hpr a3 a4 ?_ w5.heap.size ?_ ?_
                     go_must (exact Hown1.out)
                     go_must (exact Howr5.out.cells (g := gr) rfl)
                     go_must (first | assumption | omega | (simp; omega))
                     go_must (first | rfl | simp)
                     go_must (intro g2 cap2 w6 hown2 hgr2 hat2 hlt2
                              have hG6 : w4.grownBy w6 none := grown_own HG5.out (by first | exact hgr2 | exact grownBy_drew0 hgr2 | exact grownBy_drewX hgr2) (fun k hk => by simp [Value.ownBlock] at hk; omega)
                              have k61 := (hG6.cell_far ⟨g, Y, none⟩ hgw (by simp)).trans hcq
                              have k62 := (hG6.cell_far ⟨g, Y + 1, none⟩ hgw (by simp)).trans hcr
                              have hs6 := hG6.size
                              have hg2w : w4.heap.size ≤ g2 := (hown2.lt g2 rfl).1
                              have Hown2 := Lib.hid hown2
                              have Hrd6 := Lib.hid (hrk4.grown hG6 (by simp))
                              have HG6 := Lib.hid hG6
                              clear hown2 hgr2 hat2 hG6))
                  | (go_at_call 36
                     go_must (refine (pick _ b (c + d + 1 + 1) _ (by exact Hrd6.out) (by omega) (by omega) c3).mono ?_
                              rintro e w7 ⟨z3, z30, z31, rfl, hrk7, hg7⟩)
                     go_must (have hG7 : w4.grownBy w7 (some b) := grownBy_trans (grown_any HG6.out) (by first | exact hg7 | exact grownBy_drew0 hg7 | exact grownBy_drewX hg7)
                              have k71 := (hG7.cell_far ⟨g, Y, none⟩ hgw (by simp [hgb])).trans hcq
                              have k72 := (hG7.cell_far ⟨g, Y + 1, none⟩ hgw (by simp [hgb])).trans hcr
                              have hs7 := hG7.size
                              have Hown7 := Lib.hid (own_row Hown2.out (by first | exact hg7 | exact grownBy_drew0 hg7 | exact grownBy_drewX hg7) hbw4)
                              have HG7 := Lib.hid hG7
                              have Hrk7 := Lib.hid hrk7
                              have hz3 : IntKind.i64.wrap (3 + z3) = 3 + z3 := IntWalk.i64_in _ (by omega)
                              clear hrk7 hg7 hG7))
                  | (refine step_append_lies _ (by rfl) (.tmp 85) (.tmp 90) _ (by rfl) w4.heap.size TM im (.agg #[.int .i64 0, .int .i64 0]) 2 16 Try.underlying31 Mi.out Mz0.out Mz1.out Mz2.out rfl (by omega) (.slice (some ⟨g2, 0, none⟩) (mq.length + mr.length) cap2) (mq.length + mr.length) (mcells mq ++ mcells mr) (by rfl) ?_ ⟨w7.heap.size, 0, none⟩ 1 1 (mcells [(3 + z3, 0)]) (by rfl) rfl ?_ (mcells_one _) (by omega) a5 a6 ?_ (w7.heap.size + 1) ?_ ?_
                     go_must (exact Hown7.out.alloc _)
                     go_must (exact news2 w7 _ rfl _ _ _)
                     go_must (first | assumption | omega | (simp; omega))
                     go_must (first | rfl | simp)
                     go_must (intro g8 cap8 w8 hown8 hgr8 hat8 hlt8
                              have hG8 : w4.grownBy w8 (some b) := grown_own (only_alloc HG7.out _) (by first | exact hgr8 | exact grownBy_drew0 hgr8 | exact grownBy_drewX hgr8) (fun k hk => by simp [Value.ownBlock] at hk; omega)
                              have k81 := (hG8.cell_far ⟨g, Y, none⟩ hgw (by simp [hgb])).trans hcq
                              have k82 := (hG8.cell_far ⟨g, Y + 1, none⟩ hgw (by simp [hgb])).trans hcr
                              have Hown8 := Lib.hid hown8
                              have Hrd8 := Lib.hid ((Hrk7.out.alloc _).grown (by first | exact hgr8 | exact grownBy_drew0 hgr8 | exact grownBy_drewX hgr8) (fun k hk => by simp [Value.ownBlock] at hk; omega))
                              have HG8 := Lib.hid hG8
                              have hs8 := hG8.size
                              clear hown8 hgr8 hat8 hG8))
                  | fail)
              clear b5 b6 b7 b8 a1 a2 a3 a4 a5 a6 k81 k82
              have hps8 := Hps4.out.row HG8.out hbw
              have ht8 := parts_take hps8 Y
              have hd8 := parts_drop hps8 (Y + 2)
              have ho8 := parts_one hps8
              have hg8w : g < w8.heap.size := by omega
              have hle2 : (Y : Int) + 2 ≤ (ps.length : Int) := by omega
              have hY2 : Y + 2 ≤ ps.length := by omega
              have e1 : ((ps.map (·.1)).take Y).length = Y := by simp; omega
              have e2 : ((ps.map (·.1)).drop (Y + 2)).length = ps.length - (Y + 2) := by simp
              have E1 := Lib.hid e1; clear e1
              have E2 := Lib.hid e2; clear e2
              have Hps8 := Lib.hid hps8; clear hps8
              have Ht8 := Lib.hid ht8; clear ht8
              have Hd8 := Lib.hid hd8; clear hd8
              have Ho8 := Lib.hid ho8; clear ho8
              have hcl : (Y : Int) ≤ (cap : Int) := by omega
              have hcm : (cap : Int) ≤ 9223372036854775807 := by unfold maxLen at hcap2; omega
              by_cases hcap : cap = Y + 2
              · go_wp2_with (first
                  | (at_builtin
                     refine wpList_append_own _ rfl (.tmp 92) (.tmp 95) 23 rfl w8.heap.size TS i1 (.slice none 0 0) 1 24 Try.underlying23 Hi.out Hz0.out Hz1.out Hz2.out rfl (by decide) (.slice (some ⟨w8.heap.size, 0, none⟩) 0 0) 0 [] rfl (World.ownsRow_made w8 #[] 0 (Nat.le_refl _) (Nat.zero_le _) rfl) ⟨g, 0, none⟩ Y (Y + 2) ((ps.map (·.1)).take Y) rfl ?_ (cells_alloc Ht8.out hg8w _) (fun u hu => Ho8.out u (List.mem_of_mem_take hu)) (by unfold maxLen; omega) (by omega) (by simp) ?_
                     go_must (rw [E1.out, Nat.mul_one])
                     go_must (intro v16 w16 hown16 hgr16 _
                              simp only [Nat.zero_add, List.nil_append] at hown16
                              have hG16 : w8.grownBy w16 none := grown_own (only_alloc (World.grownBy.refl _ _) _) hgr16 (fun k hk => by simp [Value.ownBlock] at hk; omega)
                              have hs16 := hG16.size
                              have HG16 := Lib.hid hG16
                              have Hown16 := Lib.hid hown16
                              clear hG16 hgr16 hown16))
                  | (at_builtin
                     refine wpList_append_own _ rfl (.tmp 97) (.tmp 99) 23 rfl w8.heap.size TS i1 (.slice none 0 0) 1 24 Try.underlying23 Hi.out Hz0.out Hz1.out Hz2.out rfl (by decide) v16 Y ((ps.map (·.1)).take Y) rfl (Hown16.out.alloc _) ⟨w16.heap.size, 0, none⟩ 1 1 [.slice (some ⟨g8, 0, none⟩) (mq.length + mr.length + 1) cap8] rfl rfl (news1 _ _ rfl _ _) (by simp [Value.oneCell']) (by unfold maxLen; omega) (by omega) (by simp; omega) ?_
                     go_must (intro v17 w17 hown17 hgr17 _
                              have hG17 : w8.grownBy w17 none := grown_own (only_alloc HG16.out _) hgr17 (fun k hk => (Hown16.out.lt k hk).1)
                              have hs17 := hG17.size
                              have hc18 := cells_grown Hd8.out hg8w hG17
                              have Hc18 := Lib.hid hc18
                              have HG17 := Lib.hid hG17
                              have Hown17 := Lib.hid hown17
                              clear hc18 hG17 hgr17 hown17))
                  | (at_builtin
                     refine wpList_append_own _ rfl (.tmp 101) (.tmp 105) 23 rfl w8.heap.size TS i1 (.slice none 0 0) 1 24 Try.underlying23 Hi.out Hz0.out Hz1.out Hz2.out rfl (by decide) v17 (Y + 1) ((ps.map (·.1)).take Y ++ [.slice (some ⟨g8, 0, none⟩) (mq.length + mr.length + 1) cap8]) rfl Hown17.out ⟨g, 0, none⟩ (ps.length - (Y + 2)) _ ((ps.map (·.1)).drop (Y + 2)) rfl ?_ ?_ (fun u hu => Ho8.out u (List.mem_of_mem_drop hu)) (by unfold maxLen; omega) (by omega) (by omega) ?_
                     go_must (rw [E2.out, Nat.mul_one])
                     go_must (exact drop_none E2.out (by omega))
                     go_must (intro v18 w18 hown18 hgr18 _
                              have hG18 : w8.grownBy w18 none := grown_own HG17.out hgr18 (fun k hk => (Hown17.out.lt k hk).1)
                              obtain ⟨g18, cap18, rfl⟩ := ownsRow_form hown18 (by omega)
                              have Hdone := Lib.hid (hjoin.out w8 w18 _ _ _ _ _ _ (I64_small (by omega) (by omega)) HG8.out hG18 Hown8.out rfl hown18 (by omega) rfl)
                              have Hr18 := Lib.hid (Hrd8.out.grown hG18 (by simp))
                              have HG18 := Lib.hid (grownBy_trans HG4.out (grownBy_trans HG8.out (grown_any hG18)))
                              clear hG18 hgr18 hown18))
                  | fail)
                go_roundw
                case rel =>
                  obtain ⟨ps', hp', hl', ht'⟩ := Hdone.out
                  exact ⟨l + 1, d + 3, ps', by go_num, hp', by omega, by omega, Hr18.out.mono (by omega), by omega, HG18.out⟩
                case measure => simp [intOf, lenV]; omega
              · go_wp2_with (first
                  | (at_builtin
                     refine wpList_append_own _ rfl (.tmp 92) (.tmp 95) 23 rfl w8.heap.size TS i1 (.slice none 0 0) 1 24 Try.underlying23 Hi.out Hz0.out Hz1.out Hz2.out rfl (by decide) (.slice (some ⟨w8.heap.size, 0, none⟩) 0 0) 0 [] rfl (World.ownsRow_made w8 #[] 0 (Nat.le_refl _) (Nat.zero_le _) rfl) ⟨g, 0, none⟩ Y cap ((ps.map (·.1)).take Y) rfl ?_ (cells_alloc Ht8.out hg8w _) (fun u hu => Ho8.out u (List.mem_of_mem_take hu)) (by unfold maxLen; omega) (by omega) (by simp) ?_
                     go_must (rw [E1.out, Nat.mul_one])
                     go_must (intro v16 w16 hown16 hgr16 _
                              simp only [Nat.zero_add, List.nil_append] at hown16
                              have hG16 : w8.grownBy w16 none := grown_own (only_alloc (World.grownBy.refl _ _) _) hgr16 (fun k hk => by simp [Value.ownBlock] at hk; omega)
                              have hs16 := hG16.size
                              have HG16 := Lib.hid hG16
                              have Hown16 := Lib.hid hown16
                              clear hG16 hgr16 hown16))
                  | (at_builtin
                     refine wpList_append_own _ rfl (.tmp 97) (.tmp 99) 23 rfl w8.heap.size TS i1 (.slice none 0 0) 1 24 Try.underlying23 Hi.out Hz0.out Hz1.out Hz2.out rfl (by decide) v16 Y ((ps.map (·.1)).take Y) rfl (Hown16.out.alloc _) ⟨w16.heap.size, 0, none⟩ 1 1 [.slice (some ⟨g8, 0, none⟩) (mq.length + mr.length + 1) cap8] rfl rfl (news1 _ _ rfl _ _) (by simp [Value.oneCell']) (by unfold maxLen; omega) (by omega) (by simp; omega) ?_
                     go_must (intro v17 w17 hown17 hgr17 _
                              have hG17 : w8.grownBy w17 none := grown_own (only_alloc HG16.out _) hgr17 (fun k hk => (Hown16.out.lt k hk).1)
                              have hs17 := hG17.size
                              have hc18 := cells_grown Hd8.out hg8w hG17
                              have Hc18 := Lib.hid hc18
                              have HG17 := Lib.hid hG17
                              have Hown17 := Lib.hid hown17
                              clear hc18 hG17 hgr17 hown17))
                  | (at_builtin
                     refine wpList_append_own _ rfl (.tmp 101) (.tmp 105) 23 rfl w8.heap.size TS i1 (.slice none 0 0) 1 24 Try.underlying23 Hi.out Hz0.out Hz1.out Hz2.out rfl (by decide) v17 (Y + 1) ((ps.map (·.1)).take Y ++ [.slice (some ⟨g8, 0, none⟩) (mq.length + mr.length + 1) cap8]) rfl Hown17.out ⟨g, Y + 2, none⟩ (ps.length - (Y + 2)) _ ((ps.map (·.1)).drop (Y + 2)) rfl ?_ ?_ (fun u hu => Ho8.out u (List.mem_of_mem_drop hu)) (by unfold maxLen; omega) (by omega) (by omega) ?_
                     go_must (rw [E2.out, Nat.mul_one])
                     go_must (exact Hc18.out)
                     go_must (intro v18 w18 hown18 hgr18 _
                              have hG18 : w8.grownBy w18 none := grown_own HG17.out hgr18 (fun k hk => (Hown17.out.lt k hk).1)
                              obtain ⟨g18, cap18, rfl⟩ := ownsRow_form hown18 (by omega)
                              have Hdone := Lib.hid (hjoin.out w8 w18 _ _ _ _ _ _ (I64_small (by omega) (by omega)) HG8.out hG18 Hown8.out rfl hown18 (by omega) rfl)
                              have Hr18 := Lib.hid (Hrd8.out.grown hG18 (by simp))
                              have HG18 := Lib.hid (grownBy_trans HG4.out (grownBy_trans HG8.out (grown_any hG18)))
                              clear hG18 hgr18 hown18))
                  | fail)
                go_roundw
                case rel =>
                  obtain ⟨ps', hp', hl', ht'⟩ := Hdone.out
                  exact ⟨l + 1, d + 3, ps', by go_num, hp', by omega, by omega, Hr18.out.mono (by omega), by omega, HG18.out⟩
                case measure => simp [intOf, lenV]; omega
          · obtain rfl : l = 0 := by omega
            rw [show ((0 : Nat) : Int) = 0 from rfl]
            obtain ⟨w4, rfl⟩ : ∃ w4 : World, w4 = w3 := ⟨_, rfl⟩
            have hps4 := hps3; clear hps3
            have hrk4 := hrk3.mono (show c + d + 1 ≤ c + d + 1 + 1 by omega); clear hrk3
            have hG4 := hG3; clear hG3
            have hgw : g < w4.heap.size := (hps4.1.lt g rfl).2
            have hgb : ¬ g = b := by have := (hps4.1.lt g rfl).1; omega
            obtain ⟨hcap1, hcap2⟩ := own_cap hps4.1
            obtain ⟨gq, cq, hcq, _, hpq, hiq, howq⟩ := parts_at hps4 (show Y < ps.length by omega)
            obtain ⟨gr, cr, hcr, _, hpr, hir, howr⟩ := parts_at hps4 (show Y + 1 < ps.length by omega)
            have hleq := tot_le (show Y < ps.length by omega)
            have hler := tot_le (show Y + 1 < ps.length by omega)
            have hG4s := hG4.size
            have hjoin : Hid (∀ (w8 w9 : World) (vb v9 : Value) (k n9 : Nat) (kd : Int) (xs9 : List Value), I64 kd → w4.grownBy w8 (some b) → w8.grownBy w9 none →
                w8.ownsRow w4.heap.size TM 2 vb k (mcells (ps.getD Y pq0).2 ++ mcells (ps.getD (Y + 1) pq0).2 ++ mcells [(kd, 0)]) → k = (ps.getD Y pq0).2.length + (ps.getD (Y + 1) pq0).2.length + 1 →
                w9.ownsRow w8.heap.size TS 1 v9 n9 xs9 → n9 = ps.length - 1 → xs9 = (ps.map (·.1)).take Y ++ [vb] ++ (ps.map (·.1)).drop (Y + 2) →
                ∃ ps' : List PQ, PartsIn w9 w.heap.size v9 ps' ∧ ps'.length + 1 = ps.length ∧ tot ps' = tot ps + 1) :=
              fun w8 w9 vb v9 k n9 kd xs9 hk h8 h9 ho hkk hr hn hx => part_join hbw hps4 (by omega) hk hG4s h8 h9 ho hkk (hn ▸ hr) hx
            have Hps4 := Lib.hid hps4; clear hps4
            have HG4 := Lib.hid hG4; clear hG4
            generalize ps.getD Y pq0 = q at *
            generalize ps.getD (Y + 1) pq0 = r at *
            obtain ⟨qv, mq⟩ := q
            obtain ⟨rv, mr⟩ := r
            dsimp only at hcq hpq hiq howq hleq hcr hpr hir howr hler hjoin
            have Howq := Lib.hid howq; clear howq
            have Howr := Lib.hid howr; clear howr
            clear hiq hir
            have a1 : 0 + mq.length ≤ maxLen := by unfold maxLen; omega
            have a2 : (0 + mq.length) * 16 ≤ 140737488355328 := by omega
            have a3 : mq.length + mr.length ≤ maxLen := by unfold maxLen; omega
            have a4 : (mq.length + mr.length) * 16 ≤ 140737488355328 := by omega
            have a5 : mq.length + mr.length + 1 ≤ maxLen := by unfold maxLen; omega
            have a6 : (mq.length + mr.length + 1) * 16 ≤ 140737488355328 := by omega
            have c3 : c + d + 1 + 1 ≤ 1099511627776 := by omega
            have hbw4 : b < w4.heap.size := by omega
            go_wp2_with fail
            have b1 : Y < ps.length := by omega
            have b2 : (0 : Int) ≤ (Y : Int) := by omega
            have b3 : (Y : Int) < (ps.length : Int) := by omega
            have b4 : Y + 1 < ps.length := by omega
            have b5 : (0 : Int) ≤ (Y : Int) + 1 := by omega
            have b6 : (Y : Int) + 1 < (ps.length : Int) := by omega
            have b7 : ((Y : Int) + 1).toNat = Y + 1 := by omega
            have b8 : IntKind.i64.wrap ((Y : Int) + 1) = (Y : Int) + 1 := IntWalk.i64_in _ (by omega)
            go_region_held3 (fun w' => w'.cell? ⟨g, Y, none⟩ = some (.slice (some ⟨gq, 0, none⟩) mq.length cq) ∧ w'.cell? ⟨g, Y + 1, none⟩ = some (.slice (some ⟨gr, 0, none⟩) mr.length cr))
              (first | go_keep | exact ⟨by assumption, by assumption⟩)
              (first
                | (refine step_append_lies _ (by rfl) (.tmp 74) (.tmp 78) _ (by rfl) w4.heap.size TM im (.agg #[.int .i64 0, .int .i64 0]) 2 16 Try.underlying31 Mi.out Mz0.out Mz1.out Mz2.out rfl (by omega) (.slice (some ⟨w4.heap.size, 0, none⟩) 0 0) 0 [] (by rfl) ?_ ⟨gq, 0, none⟩ mq.length cq (mcells mq) (by rfl) (mcells_length _) ?_ (mcells_one _) hpq a1 a2 ?_ (w4.heap.size + 1) ?_ ?_
                   go_must (exact World.ownsRow_made w4 #[] 0 (Nat.le_refl _) (Nat.zero_le _) rfl)
                   go_must (exact (Howq.out.alloc _).cells (g := gq) rfl)
                   go_must (simp)
                   go_must (first | rfl | simp)
                   go_must (intro g1 cap1 w5 hown1 hgr1 hat1 hlt1
                            simp only [Nat.zero_add, List.nil_append] at hown1 ⊢
                            have hG5 : w4.grownBy w5 none := grown_own (only_alloc (World.grownBy.refl _ _) _) (by first | exact hgr1 | exact grownBy_drew0 hgr1 | exact grownBy_drewX hgr1) (fun k hk => by simp [Value.ownBlock] at hk; omega)
                            have k51 := (hG5.cell_far ⟨g, Y, none⟩ hgw (by simp)).trans hcq
                            have k52 := (hG5.cell_far ⟨g, Y + 1, none⟩ hgw (by simp)).trans hcr
                            have hs5 := hG5.size
                            have hg1w : w4.heap.size ≤ g1 := (hown1.lt g1 rfl).1
                            have Hown1 := Lib.hid hown1
                            have Howr5 := Lib.hid (own_row Howr.out (grown_any hG5) hbw)
                            have HG5 := Lib.hid hG5
                            clear hown1 hgr1 hat1 hG5))
                | (refine step_append_lies _ (by rfl) (.tmp 79) (.tmp 84) _ (by rfl) w4.heap.size TM im (.agg #[.int .i64 0, .int .i64 0]) 2 16 Try.underlying31 Mi.out Mz0.out Mz1.out Mz2.out rfl (by omega) (.slice (some ⟨g1, 0, none⟩) mq.length cap1) mq.length (mcells mq) (by rfl) ?_ ⟨gr, 0, none⟩ mr.length cr (mcells mr) (by rfl) (mcells_length _) ?_ (mcells_one _) hpr a3 a4 ?_ w5.heap.size ?_ ?_
                   go_must (exact Hown1.out)
                   go_must (exact Howr5.out.cells (g := gr) rfl)
                   go_must (first | assumption | omega | (simp; omega))
                   go_must (first | rfl | simp)
                   go_must (intro g2 cap2 w6 hown2 hgr2 hat2 hlt2
                            have hG6 : w4.grownBy w6 none := grown_own HG5.out (by first | exact hgr2 | exact grownBy_drew0 hgr2 | exact grownBy_drewX hgr2) (fun k hk => by simp [Value.ownBlock] at hk; omega)
                            have k61 := (hG6.cell_far ⟨g, Y, none⟩ hgw (by simp)).trans hcq
                            have k62 := (hG6.cell_far ⟨g, Y + 1, none⟩ hgw (by simp)).trans hcr
                            have hs6 := hG6.size
                            have hg2w : w4.heap.size ≤ g2 := (hown2.lt g2 rfl).1
                            have Hown2 := Lib.hid hown2
                            have Hrd6 := Lib.hid (hrk4.grown hG6 (by simp))
                            have HG6 := Lib.hid hG6
                            clear hown2 hgr2 hat2 hG6))
                | (go_at_call 36
                   go_must (refine (pick _ b (c + d + 1 + 1) _ (by exact Hrd6.out) (by omega) (by omega) c3).mono ?_
                            rintro e w7 ⟨z3, z30, z31, rfl, hrk7, hg7⟩)
                   go_must (have hG7 : w4.grownBy w7 (some b) := grownBy_trans (grown_any HG6.out) (by first | exact hg7 | exact grownBy_drew0 hg7 | exact grownBy_drewX hg7)
                            have k71 := (hG7.cell_far ⟨g, Y, none⟩ hgw (by simp [hgb])).trans hcq
                            have k72 := (hG7.cell_far ⟨g, Y + 1, none⟩ hgw (by simp [hgb])).trans hcr
                            have hs7 := hG7.size
                            have Hown7 := Lib.hid (own_row Hown2.out (by first | exact hg7 | exact grownBy_drew0 hg7 | exact grownBy_drewX hg7) hbw4)
                            have HG7 := Lib.hid hG7
                            have Hrk7 := Lib.hid hrk7
                            have hz3 : IntKind.i64.wrap (3 + z3) = 3 + z3 := IntWalk.i64_in _ (by omega)
                            clear hrk7 hg7 hG7))
                | (refine step_append_lies _ (by rfl) (.tmp 85) (.tmp 90) _ (by rfl) w4.heap.size TM im (.agg #[.int .i64 0, .int .i64 0]) 2 16 Try.underlying31 Mi.out Mz0.out Mz1.out Mz2.out rfl (by omega) (.slice (some ⟨g2, 0, none⟩) (mq.length + mr.length) cap2) (mq.length + mr.length) (mcells mq ++ mcells mr) (by rfl) ?_ ⟨w7.heap.size, 0, none⟩ 1 1 (mcells [(3 + z3, 0)]) (by rfl) rfl ?_ (mcells_one _) (by omega) a5 a6 ?_ (w7.heap.size + 1) ?_ ?_
                   go_must (exact Hown7.out.alloc _)
                   go_must (exact news2 w7 _ rfl _ _ _)
                   go_must (first | assumption | omega | (simp; omega))
                   go_must (first | rfl | simp)
                   go_must (intro g8 cap8 w8 hown8 hgr8 hat8 hlt8
                            have hG8 : w4.grownBy w8 (some b) := grown_own (only_alloc HG7.out _) (by first | exact hgr8 | exact grownBy_drew0 hgr8 | exact grownBy_drewX hgr8) (fun k hk => by simp [Value.ownBlock] at hk; omega)
                            have k81 := (hG8.cell_far ⟨g, Y, none⟩ hgw (by simp [hgb])).trans hcq
                            have k82 := (hG8.cell_far ⟨g, Y + 1, none⟩ hgw (by simp [hgb])).trans hcr
                            have Hown8 := Lib.hid hown8
                            have Hrd8 := Lib.hid ((Hrk7.out.alloc _).grown (by first | exact hgr8 | exact grownBy_drew0 hgr8 | exact grownBy_drewX hgr8) (fun k hk => by simp [Value.ownBlock] at hk; omega))
                            have HG8 := Lib.hid hG8
                            have hs8 := hG8.size
                            clear hown8 hgr8 hat8 hG8))
                | fail)
            clear b5 b6 b7 b8 a1 a2 a3 a4 a5 a6 k81 k82
            have hps8 := Hps4.out.row HG8.out hbw
            have ht8 := parts_take hps8 Y
            have hd8 := parts_drop hps8 (Y + 2)
            have ho8 := parts_one hps8
            have hg8w : g < w8.heap.size := by omega
            have hle2 : (Y : Int) + 2 ≤ (ps.length : Int) := by omega
            have hY2 : Y + 2 ≤ ps.length := by omega
            have e1 : ((ps.map (·.1)).take Y).length = Y := by simp; omega
            have e2 : ((ps.map (·.1)).drop (Y + 2)).length = ps.length - (Y + 2) := by simp
            have E1 := Lib.hid e1; clear e1
            have E2 := Lib.hid e2; clear e2
            have Hps8 := Lib.hid hps8; clear hps8
            have Ht8 := Lib.hid ht8; clear ht8
            have Hd8 := Lib.hid hd8; clear hd8
            have Ho8 := Lib.hid ho8; clear ho8
            have hcl : (Y : Int) ≤ (cap : Int) := by omega
            have hcm : (cap : Int) ≤ 9223372036854775807 := by unfold maxLen at hcap2; omega
            by_cases hcap : cap = Y + 2
            · go_wp2_with (first
                | (at_builtin
                   refine wpList_append_own _ rfl (.tmp 92) (.tmp 95) 23 rfl w8.heap.size TS i1 (.slice none 0 0) 1 24 Try.underlying23 Hi.out Hz0.out Hz1.out Hz2.out rfl (by decide) (.slice (some ⟨w8.heap.size, 0, none⟩) 0 0) 0 [] rfl (World.ownsRow_made w8 #[] 0 (Nat.le_refl _) (Nat.zero_le _) rfl) ⟨g, 0, none⟩ Y (Y + 2) ((ps.map (·.1)).take Y) rfl ?_ (cells_alloc Ht8.out hg8w _) (fun u hu => Ho8.out u (List.mem_of_mem_take hu)) (by unfold maxLen; omega) (by omega) (by simp) ?_
                   go_must (rw [E1.out, Nat.mul_one])
                   go_must (intro v16 w16 hown16 hgr16 _
                            simp only [Nat.zero_add, List.nil_append] at hown16
                            have hG16 : w8.grownBy w16 none := grown_own (only_alloc (World.grownBy.refl _ _) _) hgr16 (fun k hk => by simp [Value.ownBlock] at hk; omega)
                            have hs16 := hG16.size
                            have HG16 := Lib.hid hG16
                            have Hown16 := Lib.hid hown16
                            clear hG16 hgr16 hown16))
                | (at_builtin
                   refine wpList_append_own _ rfl (.tmp 97) (.tmp 99) 23 rfl w8.heap.size TS i1 (.slice none 0 0) 1 24 Try.underlying23 Hi.out Hz0.out Hz1.out Hz2.out rfl (by decide) v16 Y ((ps.map (·.1)).take Y) rfl (Hown16.out.alloc _) ⟨w16.heap.size, 0, none⟩ 1 1 [.slice (some ⟨g8, 0, none⟩) (mq.length + mr.length + 1) cap8] rfl rfl (news1 _ _ rfl _ _) (by simp [Value.oneCell']) (by unfold maxLen; omega) (by omega) (by simp; omega) ?_
                   go_must (intro v17 w17 hown17 hgr17 _
                            have hG17 : w8.grownBy w17 none := grown_own (only_alloc HG16.out _) hgr17 (fun k hk => (Hown16.out.lt k hk).1)
                            have hs17 := hG17.size
                            have hc18 := cells_grown Hd8.out hg8w hG17
                            have Hc18 := Lib.hid hc18
                            have HG17 := Lib.hid hG17
                            have Hown17 := Lib.hid hown17
                            clear hc18 hG17 hgr17 hown17))
                | (at_builtin
                   refine wpList_append_own _ rfl (.tmp 101) (.tmp 105) 23 rfl w8.heap.size TS i1 (.slice none 0 0) 1 24 Try.underlying23 Hi.out Hz0.out Hz1.out Hz2.out rfl (by decide) v17 (Y + 1) ((ps.map (·.1)).take Y ++ [.slice (some ⟨g8, 0, none⟩) (mq.length + mr.length + 1) cap8]) rfl Hown17.out ⟨g, 0, none⟩ (ps.length - (Y + 2)) _ ((ps.map (·.1)).drop (Y + 2)) rfl ?_ ?_ (fun u hu => Ho8.out u (List.mem_of_mem_drop hu)) (by unfold maxLen; omega) (by omega) (by omega) ?_
                   go_must (rw [E2.out, Nat.mul_one])
                   go_must (exact drop_none E2.out (by omega))
                   go_must (intro v18 w18 hown18 hgr18 _
                            have hG18 : w8.grownBy w18 none := grown_own HG17.out hgr18 (fun k hk => (Hown17.out.lt k hk).1)
                            obtain ⟨g18, cap18, rfl⟩ := ownsRow_form hown18 (by omega)
                            have Hdone := Lib.hid (hjoin.out w8 w18 _ _ _ _ _ _ (I64_small (by omega) (by omega)) HG8.out hG18 Hown8.out rfl hown18 (by omega) rfl)
                            have Hr18 := Lib.hid (Hrd8.out.grown hG18 (by simp))
                            have HG18 := Lib.hid (grownBy_trans HG4.out (grownBy_trans HG8.out (grown_any hG18)))
                            clear hG18 hgr18 hown18))
                | fail)
              go_roundw
              case rel =>
                obtain ⟨ps', hp', hl', ht'⟩ := Hdone.out
                exact ⟨0, d + 3, ps', rfl, hp', by omega, by omega, Hr18.out.mono (by omega), by omega, HG18.out⟩
              case measure => simp [intOf, lenV]; omega
            · go_wp2_with (first
                | (at_builtin
                   refine wpList_append_own _ rfl (.tmp 92) (.tmp 95) 23 rfl w8.heap.size TS i1 (.slice none 0 0) 1 24 Try.underlying23 Hi.out Hz0.out Hz1.out Hz2.out rfl (by decide) (.slice (some ⟨w8.heap.size, 0, none⟩) 0 0) 0 [] rfl (World.ownsRow_made w8 #[] 0 (Nat.le_refl _) (Nat.zero_le _) rfl) ⟨g, 0, none⟩ Y cap ((ps.map (·.1)).take Y) rfl ?_ (cells_alloc Ht8.out hg8w _) (fun u hu => Ho8.out u (List.mem_of_mem_take hu)) (by unfold maxLen; omega) (by omega) (by simp) ?_
                   go_must (rw [E1.out, Nat.mul_one])
                   go_must (intro v16 w16 hown16 hgr16 _
                            simp only [Nat.zero_add, List.nil_append] at hown16
                            have hG16 : w8.grownBy w16 none := grown_own (only_alloc (World.grownBy.refl _ _) _) hgr16 (fun k hk => by simp [Value.ownBlock] at hk; omega)
                            have hs16 := hG16.size
                            have HG16 := Lib.hid hG16
                            have Hown16 := Lib.hid hown16
                            clear hG16 hgr16 hown16))
                | (at_builtin
                   refine wpList_append_own _ rfl (.tmp 97) (.tmp 99) 23 rfl w8.heap.size TS i1 (.slice none 0 0) 1 24 Try.underlying23 Hi.out Hz0.out Hz1.out Hz2.out rfl (by decide) v16 Y ((ps.map (·.1)).take Y) rfl (Hown16.out.alloc _) ⟨w16.heap.size, 0, none⟩ 1 1 [.slice (some ⟨g8, 0, none⟩) (mq.length + mr.length + 1) cap8] rfl rfl (news1 _ _ rfl _ _) (by simp [Value.oneCell']) (by unfold maxLen; omega) (by omega) (by simp; omega) ?_
                   go_must (intro v17 w17 hown17 hgr17 _
                            have hG17 : w8.grownBy w17 none := grown_own (only_alloc HG16.out _) hgr17 (fun k hk => (Hown16.out.lt k hk).1)
                            have hs17 := hG17.size
                            have hc18 := cells_grown Hd8.out hg8w hG17
                            have Hc18 := Lib.hid hc18
                            have HG17 := Lib.hid hG17
                            have Hown17 := Lib.hid hown17
                            clear hc18 hG17 hgr17 hown17))
                | (at_builtin
                   refine wpList_append_own _ rfl (.tmp 101) (.tmp 105) 23 rfl w8.heap.size TS i1 (.slice none 0 0) 1 24 Try.underlying23 Hi.out Hz0.out Hz1.out Hz2.out rfl (by decide) v17 (Y + 1) ((ps.map (·.1)).take Y ++ [.slice (some ⟨g8, 0, none⟩) (mq.length + mr.length + 1) cap8]) rfl Hown17.out ⟨g, Y + 2, none⟩ (ps.length - (Y + 2)) _ ((ps.map (·.1)).drop (Y + 2)) rfl ?_ ?_ (fun u hu => Ho8.out u (List.mem_of_mem_drop hu)) (by unfold maxLen; omega) (by omega) (by omega) ?_
                   go_must (rw [E2.out, Nat.mul_one])
                   go_must (exact Hc18.out)
                   go_must (intro v18 w18 hown18 hgr18 _
                            have hG18 : w8.grownBy w18 none := grown_own HG17.out hgr18 (fun k hk => (Hown17.out.lt k hk).1)
                            obtain ⟨g18, cap18, rfl⟩ := ownsRow_form hown18 (by omega)
                            have Hdone := Lib.hid (hjoin.out w8 w18 _ _ _ _ _ _ (I64_small (by omega) (by omega)) HG8.out hG18 Hown8.out rfl hown18 (by omega) rfl)
                            have Hr18 := Lib.hid (Hrd8.out.grown hG18 (by simp))
                            have HG18 := Lib.hid (grownBy_trans HG4.out (grownBy_trans HG8.out (grown_any hG18)))
                            clear hG18 hgr18 hown18))
                | fail)
              go_roundw
              case rel =>
                obtain ⟨ps', hp', hl', ht'⟩ := Hdone.out
                exact ⟨0, d + 3, ps', rfl, hp', by omega, by omega, Hr18.out.mono (by omega), by omega, HG18.out⟩
              case measure => simp [intOf, lenV]; omega
        · obtain hlen1' : ps.length = 1 := by omega
          have Hlen1 := Lib.hid hlen1'; clear hlen1'
          obtain ⟨gq, cq, hcell, _, hpos, hi64, hownq⟩ := parts_at hps (show 0 < ps.length by omega)
          have hle := tot_le (show 0 < ps.length by omega)
          have hgw : g < wr.heap.size := (hps.1.lt g rfl).2
          have hlen0 : (0 : Int) < (ps.length : Int) := by omega
          have hno : ¬ (1 : Int) < (ps.length : Int) := by omega
          generalize ps.getD 0 pq0 = q at *
          obtain ⟨qv, mq⟩ := q
          dsimp only at hcell hpos hi64 hownq hle
          have Howq := Lib.hid hownq; clear hownq
          have Hi64 := Lib.hid hi64; clear hi64
          have Hps := Lib.hid hps; clear hps
          go_wp2_with fail
          refine (pick _ _ _ _ hrk (by omega) (by omega) (by omega)).mono ?_
          rintro e w4 ⟨y, hy0, hy1, rfl, hrk4, hg4⟩
          have Hown4 := Lib.hid (own_row Howq.out hg4 hbw)
          have hG4 := grownBy_trans hGk hg4
          clear hrk hGk hg4 Howq
          have hG4s := hG4.size
          by_cases hy : y = 0
          · have hyb : (y == 0) = true := by rw [beq_iff_eq]; exact hy
            clear hy hy0 hy1
            go_wp2_with (first
              | (at_builtin
                 refine wpList_append_own _ rfl (.tmp 113) (.tmp 115) 31 rfl w.heap.size TM im (.agg #[.int .i64 0, .int .i64 0]) 2 16 Try.underlying31 Mi.out Mz0.out Mz1.out Mz2.out rfl (by decide) (.slice (some ⟨gq, 0, none⟩) mq.length cq) mq.length (mcells mq) rfl (Hown4.out.alloc _) ⟨w4.heap.size, 0, none⟩ 1 1 (mcells [(2, 0)]) rfl rfl (news2 _ _ rfl _ _ _) (mcells_one _) (by unfold maxLen; omega) (by omega) (by simp; omega) ?_
                 go_must (intro v5 w5 hown5 hgr5 _
                          have hgb : b < gq := Nat.lt_of_lt_of_le hbw (Hown4.out.lt gq rfl).1
                          have hG5 := grown_own (only_alloc hG4 (.cells #[.int .i64 2, .int .i64 0] TM)) hgr5 (fun k hk => (Hown4.out.lt k hk).1)
                          have hrd5 := (hrk4.alloc (.cells #[.int .i64 2, .int .i64 0] TM)).grown hgr5 (fun k hk => by have := (Hown4.out.lt k hk).1; omega)
                          have hown5' : w5.ownsRow w.heap.size TM 2 v5 (mq ++ [(2, (0 : Int))]).length (mcells (mq ++ [(2, 0)])) := by rw [mcells_append]; simpa using hown5
                          obtain ⟨gT, cT, rfl⟩ := ownsRow_form hown5 (by omega)
                          have Hi5 := Lib.hid (I64s_append Hi64.out (I64s_one (k := 2) (x := 0) (I64_small (by omega) (by omega)) (I64_small (by omega) (by omega))))
                          have Hl5 : Hid ((mq ++ [(2, (0 : Int))]).length = mq.length + 1) := by simp [Hid]
                          have Hown5 := Lib.hid hown5'
                          have HG5 := Lib.hid hG5
                          have Hrd5 := Lib.hid hrd5
                          clear hown5 hown5' hgr5 hG5 hrd5))
              | fail)
            have hl5 := Hl5.out
            generalize mq ++ [(2, (0 : Int))] = mT at *
            generalize hnT : mq.length + 1 = nT at *
            have hnl : nT ≤ 11 := by omega
            have hnp : 0 < nT := by omega
            clear hl5 hnT hle hpos
            refine (odd _ _ _ _ Hrd5.out hn (by omega)).mono ?_
            rintro e w6 ⟨x, rfl, hrd6, hg6⟩
            have Hown6 : Hid (w6.ownsRow w.heap.size TM 2 (.slice (some ⟨gT, 0, none⟩) nT cT) nT (mcells mT)) := by
              have h0 := own_row Hown5.out hg6 hbw
              first | exact h0 | (rw [Hl5.out] at h0; exact h0)
            have HG6 := Lib.hid (grownBy_trans HG5.out hg6)
            have Hrd6 := Lib.hid hrd6
            clear hg6 hrd6 Hown5 HG5 Hrd5
            cases x with
            | false =>
              go_wp2
              go_ret
              exact ⟨_, _, _, mT, rfl, Hl5.out, Hown6.out, Hi5.out, by omega, Hrd6.out.mono (by omega), HG6.out⟩
            | true =>
              go_wp2_with fail
              refine (pick _ _ _ _ Hrd6.out (by omega) (by omega) (by omega)).mono ?_
              rintro e w7 ⟨z, hz0, hz1, rfl, hrd7, hg7⟩
              have Hown7 := Lib.hid (own_row Hown6.out hg7 hbw)
              have HG7 := Lib.hid (grownBy_trans HG6.out hg7)
              have Hrd7 := Lib.hid hrd7
              have hs7 := HG7.out.size
              clear hg7 hrd7
              have hz : z = 0 ∨ z = 1 ∨ z = 2 := by omega
              clear hz0 hz1
              rcases hz with rfl | rfl | rfl
              · go_wp2
                go_ret
                exact ⟨_, _, _, [], rfl, rfl, World.ownsRow_made _ _ 0 hs7 (Nat.zero_le _) rfl, by intro m hm; simp at hm, by simp, (Hrd7.out.alloc _).mono (by omega), only_alloc HG7.out _⟩
              · go_wp2_with (first
                  | (at_builtin
                     refine wpList_append_own _ rfl (.tmp 132) (.tmp 134) 31 rfl w.heap.size TM im (.agg #[.int .i64 0, .int .i64 0]) 2 16 Try.underlying31 Mi.out Mz0.out Mz1.out Mz2.out rfl (by decide) (.slice (some ⟨gT, 0, none⟩) nT cT) nT (mcells mT) rfl (Hown7.out.alloc _) ⟨w7.heap.size, 0, none⟩ 1 1 (mcells [(5, 0)]) rfl rfl (news2 _ _ rfl _ _ _) (mcells_one _) (by unfold maxLen; omega) (by omega) (by simp; omega) ?_
                     go_must (intro v8 w8 hown8 hgr8 _
                              have hG8 := grown_own (only_alloc HG7.out (.cells #[.int .i64 5, .int .i64 0] TM)) hgr8 (fun k hk => (Hown7.out.lt k hk).1)
                              have hrd8 := (Hrd7.out.alloc (.cells #[.int .i64 5, .int .i64 0] TM)).grown hgr8 (fun k hk => by have := (Hown7.out.lt k hk).1; omega)
                              obtain ⟨g8, c8, rfl⟩ := ownsRow_form hown8 (by omega)
                              have Hown8 : Hid (w8.ownsRow w.heap.size TM 2 (.slice (some ⟨g8, 0, none⟩) (nT + 1) c8) (nT + 1) (mcells (mT ++ [(5, 0)]))) := by
                                unfold Hid
                                rw [mcells_append]; exact hown8
                              have HG8 := Lib.hid hG8
                              have Hrd8 := Lib.hid hrd8
                              clear hown8 hgr8 hG8 hrd8))
                  | fail)
                go_ret
                exact ⟨_, _, _, _, rfl, by rw [List.length_append, Hl5.out]; rfl, Hown8.out, I64s_append Hi5.out (I64s_one (I64_small (by omega) (by omega)) (I64_small (by omega) (by omega))), by omega, Hrd8.out.mono (by omega), HG8.out⟩
              · go_wp2_with fail
                refine (pick _ _ _ _ Hrd7.out (by omega) (by omega) (by omega)).mono ?_
                rintro e w8 ⟨z, hz0, hz1, rfl, hrd8, hg8⟩
                have Hown8 := Lib.hid (own_row Hown7.out hg8 hbw)
                have hgT := (Hown8.out.lt gT rfl).1
                have HG8 := Lib.hid (grownBy_trans HG7.out hg8)
                have Hrd8 := Lib.hid hrd8
                clear hg8 hrd8
                obtain ⟨u1, u2, hu1, hu2, hf1, hf2, Hset⟩ := own_set0 Hown8.out Hl5.out hnp z 6 (I64_small (by omega) (by omega)) (I64_small (by omega) (by omega)) Hi5.out
                have HSet := Lib.hid Hset; clear Hset
                have hnp' : (0 : Int) < (nT : Int) := by omega
                have HG9 := Lib.hid (grown_own (grown_own HG8.out (grownBy_setCell (w := w8) gT 0 (.int .i64 z)) (fun k hk => by cases hk; exact hgT)) (grownBy_setCell gT 1 (.int .i64 6)) (fun k hk => by cases hk; exact hgT))
                have Hrd9 := Lib.hid ((Hrd8.out.set (g := gT) (y := 0) (u := .int .i64 z) (by omega)).set (g := gT) (y := 1) (u := .int .i64 6) (by omega))
                go_wp2
                go_ret
                obtain ⟨ms', h1, h2, h3⟩ := HSet.out
                rw [h3] at h1
                exact ⟨_, _, _, ms', rfl, h3, h1, h2, by omega, Hrd9.out.mono (by omega), HG9.out⟩
          · have hyb : (y == 0) = false := by rw [beq_eq_false_iff_ne]; exact hy
            clear hy hy0 hy1
            have Hl5 : Hid (mq.length = mq.length) := rfl
            have Hi5 := Hi64
            have Hown5 := Hown4
            have HG5 := Lib.hid hG4
            have Hrd5 := Lib.hid hrk4
            have hnl : mq.length ≤ 11 := by omega
            have hnp : 0 < mq.length := hpos
            obtain ⟨w5, rfl⟩ : ∃ w5 : World, w5 = w4 := ⟨_, rfl⟩
            obtain ⟨gT, rfl⟩ : ∃ gT, gT = gq := ⟨_, rfl⟩
            obtain ⟨cT, rfl⟩ : ∃ cT, cT = cq := ⟨_, rfl⟩
            obtain ⟨mT, rfl⟩ : ∃ mT, mT = mq := ⟨_, rfl⟩
            generalize hnT : mT.length = nT at *
            have Hl6 : Hid (mT.length = nT) := hnT
            clear Hl5 hnT
            have Hl5 := Hl6
            go_wp2_with fail
            refine (odd _ _ _ _ Hrd5.out hn (by omega)).mono ?_
            rintro e w6 ⟨x, rfl, hrd6, hg6⟩
            have Hown6 : Hid (w6.ownsRow w.heap.size TM 2 (.slice (some ⟨gT, 0, none⟩) nT cT) nT (mcells mT)) := by
              have h0 := own_row Hown5.out hg6 hbw
              first | exact h0 | (rw [Hl5.out] at h0; exact h0)
            have HG6 := Lib.hid (grownBy_trans HG5.out hg6)
            have Hrd6 := Lib.hid hrd6
            clear hg6 hrd6 Hown5 HG5 Hrd5
            cases x with
            | false =>
              go_wp2
              go_ret
              exact ⟨_, _, _, mT, rfl, Hl5.out, Hown6.out, Hi5.out, by omega, Hrd6.out.mono (by omega), HG6.out⟩
            | true =>
              go_wp2_with fail
              refine (pick _ _ _ _ Hrd6.out (by omega) (by omega) (by omega)).mono ?_
              rintro e w7 ⟨z, hz0, hz1, rfl, hrd7, hg7⟩
              have Hown7 := Lib.hid (own_row Hown6.out hg7 hbw)
              have HG7 := Lib.hid (grownBy_trans HG6.out hg7)
              have Hrd7 := Lib.hid hrd7
              have hs7 := HG7.out.size
              clear hg7 hrd7
              have hz : z = 0 ∨ z = 1 ∨ z = 2 := by omega
              clear hz0 hz1
              rcases hz with rfl | rfl | rfl
              · go_wp2
                go_ret
                exact ⟨_, _, _, [], rfl, rfl, World.ownsRow_made _ _ 0 hs7 (Nat.zero_le _) rfl, by intro m hm; simp at hm, by simp, (Hrd7.out.alloc _).mono (by omega), only_alloc HG7.out _⟩
              · go_wp2_with (first
                  | (at_builtin
                     refine wpList_append_own _ rfl (.tmp 132) (.tmp 134) 31 rfl w.heap.size TM im (.agg #[.int .i64 0, .int .i64 0]) 2 16 Try.underlying31 Mi.out Mz0.out Mz1.out Mz2.out rfl (by decide) (.slice (some ⟨gT, 0, none⟩) nT cT) nT (mcells mT) rfl (Hown7.out.alloc _) ⟨w7.heap.size, 0, none⟩ 1 1 (mcells [(5, 0)]) rfl rfl (news2 _ _ rfl _ _ _) (mcells_one _) (by unfold maxLen; omega) (by omega) (by simp; omega) ?_
                     go_must (intro v8 w8 hown8 hgr8 _
                              have hG8 := grown_own (only_alloc HG7.out (.cells #[.int .i64 5, .int .i64 0] TM)) hgr8 (fun k hk => (Hown7.out.lt k hk).1)
                              have hrd8 := (Hrd7.out.alloc (.cells #[.int .i64 5, .int .i64 0] TM)).grown hgr8 (fun k hk => by have := (Hown7.out.lt k hk).1; omega)
                              obtain ⟨g8, c8, rfl⟩ := ownsRow_form hown8 (by omega)
                              have Hown8 : Hid (w8.ownsRow w.heap.size TM 2 (.slice (some ⟨g8, 0, none⟩) (nT + 1) c8) (nT + 1) (mcells (mT ++ [(5, 0)]))) := by
                                unfold Hid
                                rw [mcells_append]; exact hown8
                              have HG8 := Lib.hid hG8
                              have Hrd8 := Lib.hid hrd8
                              clear hown8 hgr8 hG8 hrd8))
                  | fail)
                go_ret
                exact ⟨_, _, _, _, rfl, by rw [List.length_append, Hl5.out]; rfl, Hown8.out, I64s_append Hi5.out (I64s_one (I64_small (by omega) (by omega)) (I64_small (by omega) (by omega))), by omega, Hrd8.out.mono (by omega), HG8.out⟩
              · go_wp2_with fail
                refine (pick _ _ _ _ Hrd7.out (by omega) (by omega) (by omega)).mono ?_
                rintro e w8 ⟨z, hz0, hz1, rfl, hrd8, hg8⟩
                have Hown8 := Lib.hid (own_row Hown7.out hg8 hbw)
                have hgT := (Hown8.out.lt gT rfl).1
                have HG8 := Lib.hid (grownBy_trans HG7.out hg8)
                have Hrd8 := Lib.hid hrd8
                clear hg8 hrd8
                obtain ⟨u1, u2, hu1, hu2, hf1, hf2, Hset⟩ := own_set0 Hown8.out Hl5.out hnp z 6 (I64_small (by omega) (by omega)) (I64_small (by omega) (by omega)) Hi5.out
                have HSet := Lib.hid Hset; clear Hset
                have hnp' : (0 : Int) < (nT : Int) := by omega
                have HG9 := Lib.hid (grown_own (grown_own HG8.out (grownBy_setCell (w := w8) gT 0 (.int .i64 z)) (fun k hk => by cases hk; exact hgT)) (grownBy_setCell gT 1 (.int .i64 6)) (fun k hk => by cases hk; exact hgT))
                have Hrd9 := Lib.hid ((Hrd8.out.set (g := gT) (y := 0) (u := .int .i64 z) (by omega)).set (g := gT) (y := 1) (u := .int .i64 6) (by omega))
                go_wp2
                go_ret
                obtain ⟨ms', h1, h2, h3⟩ := HSet.out
                rw [h3] at h1
                exact ⟨_, _, _, ms', rfl, h3, h1, h2, by omega, Hrd9.out.mono (by omega), HG9.out⟩
theorem l20TermW (p : Int) (n : Nat) (b c : Nat) (w : World) (hrd : Rd w b c) (hp1 : 1 ≤ p) (hp4 : p ≤ 8) (hn : n ≤ 1099511627776) (hc : c ≤ 549755813888) :
    Calls Try.prog 37 #[.pointer (some ⟨b, 0, none⟩), .int .i64 p, .int .i64 n] w (DrewM b (c + 100) w) := by
  by_cases h : p ≤ 4
  · exact l20Term p n b c w hrd hp1 h hn hc
  · exact l20TermHi p n b c w hrd (by omega) hp4 hn hc
end Go.Proofs.Ythiabicleedleaa
/- The first laws of chapter 1: worlds. Each answers true, whatever the code. No condition. -/
namespace Go.Proofs.Ythiabicleedleaa
open Go.RowKit

attribute [local irreducible] heads turned tabOf wl

/-- two drawn numbers of which P holds, nothing that was there is changed -/
def Out2 (P : Int → Int → Prop) (w : World) (e : Ending) (w' : World) : Prop :=
  ∃ p x : Int, P p x ∧ e = .returned (.tuple #[.int .i64 p, .int .i64 x]) ∧ Below w.heap.size w w'
theorem below_of_grown {w w1 w' : World} {b : Nat} (h : Below w.heap.size w w1) (hb : w.heap.size ≤ b) (hg : w1.grownBy w' (some b)) : Below w.heap.size w w' :=
  h.grown hg h.size (fun k hk => by cases hk; exact hb)
theorem code_big {n : Nat} (h : ¬ n ≤ 1048576) : (1048576 : Int) < (n : Int) := by omega

set_option maxHeartbeats 400000 in
theorem alive (w : World) : Calls Try.prog 13 #[] w fun e w' => e = .returned (.bool true) ∧ w = w' := by
  go_enter Try.func13, Try.ntmps13
  go_wp2_with fail
  refine (implWorldOk _ _ _).mono ?_
  rintro e w' ⟨rfl, rfl⟩
  rw [show wOk 1 1 = true from by decide]
  go_wp2_with fail
  refine (implWorldOk _ _ _).mono ?_
  rintro e w' ⟨rfl, rfl⟩
  rw [show wOk 1 2 = false from by decide]
  go_wp2
  go_ret
  exact ⟨rfl, rfl⟩



end Go.Proofs.Ythiabicleedleaa

namespace Go.Proofs.Ythiabicleedleaa
open Go.RowKit
theorem heads_opp {p : Int} {X N : Nat} (h1 : 1 ≤ p) (h2 : p ≤ 4) (hN : (N : Int) = 2 ^ p.toNat) (hX : X < N) : (heads X : Int) + heads (N - 1 - X) = p := by
  rcases p_cases h1 h2 with rfl | rfl | rfl | rfl
  · have : N = 2 := by simp at hN; omega
    subst this
    exact (by decide +kernel : ∀ X : Nat, X < 2 → (heads X : Int) + heads (2 - 1 - X) = 1) X hX
  · have : N = 4 := by simp at hN; omega
    subst this
    exact (by decide +kernel : ∀ X : Nat, X < 4 → (heads X : Int) + heads (4 - 1 - X) = 2) X hX
  · have : N = 8 := by simp at hN; omega
    subst this
    exact (by decide +kernel : ∀ X : Nat, X < 8 → (heads X : Int) + heads (8 - 1 - X) = 3) X hX
  · have : N = 16 := by simp at hN; omega
    subst this
    exact (by decide +kernel : ∀ X : Nat, X < 16 → (heads X : Int) + heads (16 - 1 - X) = 4) X hX
theorem N_even {p : Int} {N : Nat} (h1 : 1 ≤ p) (h2 : p ≤ 4) (hN : (N : Int) = 2 ^ p.toNat) : N = 2 ∨ N = 4 ∨ N = 8 ∨ N = 16 := by
  rcases p_cases h1 h2 with rfl | rfl | rfl | rfl <;> simp at hN <;> omega
theorem wOk_N {p x : Int} {N : Nat} (h : wOk p x = true) (hN : (N : Int) = 2 ^ p.toNat) : 0 ≤ x ∧ x < N := by
  have := wOk_iff.1 h; omega
theorem wOk_of {p x : Int} {N : Nat} (h1 : 1 ≤ p) (h2 : p ≤ 4) (hN : (N : Int) = 2 ^ p.toNat) (h3 : 0 ≤ x) (h4 : x < N) : wOk p x = true :=
  wOk_iff.2 ⟨h1, h2, h3, by omega⟩
end Go.Proofs.Ythiabicleedleaa
/- The reference model's draw of a world and terms. -/
namespace Go.Proofs.Ythiabicleedleaa
open Go.RowKit Go.Joins
/-- rows of marks of one's own -/
def TermsIn (w : World) (base : Nat) (v : Value) (rs : List RT) : Prop :=
  w.ownsRow base TS 1 v rs.length (rs.map (·.1)) ∧ ∀ q ∈ rs, w.ownsRow base TM 2 q.1 q.2.length (mcells q.2) ∧ I64s q.2
theorem TS_TM : TS ≠ TM := by decide
theorem TermsIn.row {w w' : World} {base b : Nat} {v : Value} {rs : List RT} (h : TermsIn w base v rs) (hg : w.grownBy w' (some b)) (hb : b < base) : TermsIn w' base v rs :=
  ⟨own_row h.1 hg hb, fun q hq => ⟨own_row (h.2 q hq).1 hg hb, (h.2 q hq).2⟩⟩
theorem TermsIn.alloc {w : World} {base : Nat} {v : Value} {rs : List RT} (h : TermsIn w base v rs) (o : Obj) : TermsIn (w.alloc o) base v rs :=
  ⟨h.1.alloc o, fun q hq => ⟨(h.2 q hq).1.alloc o, (h.2 q hq).2⟩⟩
theorem TermsIn.mono {w : World} {base base' : Nat} {v : Value} {rs : List RT} (h : TermsIn w base' v rs) (hb : base ≤ base') : TermsIn w base v rs :=
  ⟨own_mono h.1 hb, fun q hq => ⟨own_mono (h.2 q hq).1 hb, (h.2 q hq).2⟩⟩
theorem TermsIn.push {w w' : World} {base : Nat} {v v' : Value} {rs : List RT} {q : RT} (h : TermsIn w base v rs)
    (hq : w.ownsRow base TM 2 q.1 q.2.length (mcells q.2) ∧ I64s q.2) (hown : w'.ownsRow base TS 1 v' (rs.length + 1) (rs.map (·.1) ++ [q.1])) (hg : w.grownBy w' v.ownBlock) : TermsIn w' base v' (rs ++ [q]) := by
  refine ⟨by simpa using hown, fun r hr => ?_⟩
  rcases List.mem_append.1 hr with hr | hr
  · exact ⟨(h.2 r hr).1.kept hg (own_ne (h.2 r hr).1 h.1 (fun e => TS_TM e.symm)), (h.2 r hr).2⟩
  · simp at hr; subst hr
    exact ⟨hq.1.kept hg (own_ne hq.1 h.1 (fun e => TS_TM e.symm)), hq.2⟩
theorem TermsIn.rd {w : World} {base : Nat} {v : Value} {rs : List RT} (h : TermsIn w base v rs) : RdTerms w w.heap.size v rs := by
  obtain ⟨ho, hq⟩ := h
  have hq' : ∀ r ∈ rs, RdMarks w w.heap.size r.1 r.2 := fun r hr => RdMarks.of_own (hq r hr).1 (hq r hr).2
  rcases ho.2 with ⟨rfl, hn⟩ | ⟨g, cap, cur, rfl, hb, hg, hnc, hcm, hcs, htake⟩
  · have : rs = [] := List.eq_nil_of_length_eq_zero hn
    subst this
    exact ⟨none, 0, rfl, Nat.le_refl _, by unfold maxLen; omega, hq', fun j hj => by simp at hj⟩
  · refine ⟨_, cap, rfl, hnc, hcm, hq', fun j hj => ⟨g, 0, rfl, (Array.getElem?_eq_some_iff.1 hg).1, ?_⟩⟩
    have h1 : (rs.map (·.1))[j]? = some (rs.getD j rt0).1 := by simp [List.getD, hj]
    rw [cell_of_row w g (0 + j) cur TS (0, 0) hg]
    rw [← htake, List.getElem?_take] at h1
    split at h1
    · simpa using h1
    · cases h1
def OutMd (w : World) (e : Ending) (w' : World) : Prop :=
  ∃ (p x : Int) (v : Value) (rs : List RT), PW p x ∧ e = .returned (.tuple #[.int .i64 p, .int .i64 x, v]) ∧ TermsIn w' w.heap.size v rs ∧ (∀ r ∈ rs, r.2.length ≤ 20) ∧ rs.length ≤ 5 ∧ Below w.heap.size w w'
theorem div_cases12 {z m : Int} (h0 : 0 ≤ z) (h1 : z < m + 1) (hm2 : 1 < m) : z.tdiv m = 0 ∨ z.tdiv m = 1 := by
  rw [Int.tdiv_eq_ediv_of_nonneg h0]
  by_cases h : z = m
  · right; rw [h]; exact Int.ediv_self (by omega)
  · left; exact Int.ediv_eq_zero_of_lt h0 (by omega)
set_option maxRecDepth 100000 in
set_option maxHeartbeats 8000000 in
theorem drawMadeStory (a : Value) (n : Nat) (w : World) (hr : RdBytes w w.heap.size a n) :
    Calls Try.prog 9 #[a] w (OutMd w) := by
  obtain ⟨i1, hi, hz0, hz1, hz2⟩ := info_parts Try.infoS
  have Hi := Lib.hid hi; clear hi
  have Hz0 := Lib.hid hz0; clear hz0
  have Hz1 := Lib.hid hz1; clear hz1
  have Hz2 := Lib.hid hz2; clear hz2
  go_enter Try.func9, Try.ntmps9
  go_wp2_with fail
  refine (l20Open _ _ _ hr).mono ?_
  rintro e w0 ⟨b, rfl, hb, hrd, hbel⟩
  have hs0 := hbel.size
  have hbw := hrd.lt
  go_wp2_with fail
  refine (l20World b 0 _ hrd (by omega)).mono ?_
  rintro e w1 ⟨p, x, hpx, rfl, hrd1, hg1⟩
  obtain ⟨hp1, hp8, hx0, hx32⟩ := hpx
  have hs1 := hg1.size
  have hown1 : (w1.alloc (.cells #[] TS)).ownsRow w0.heap.size TS 1 (.slice (some ⟨w1.heap.size, 0, none⟩) 0 0) 0 [] := World.ownsRow_made _ _ 0 hs1 (by unfold maxLen; omega) rfl
  have hrd1' := hrd1.alloc (.cells #[] TS)
  have hG1 := only_alloc hg1 (.cells #[] TS)
  obtain ⟨m, hm, hm1, hm4⟩ : ∃ m : Int, min p 4 = m ∧ 1 ≤ m ∧ m ≤ 4 := ⟨_, rfl, by omega, by omega⟩
  have hmi : (if 4 < p then (4 : Int) else p) = m := by rw [← hm]; split <;> omega
  clear hrd hrd1 hg1
  go_wp2_with fail
  first
    | rw [hm]
    | rw [hmi]
    | skip
  refine (pick (m + 1) b _ _ hrd1' (by omega) (by omega) (by omega)).mono ?_
  rintro e w2 ⟨y, hy0, hy5, rfl, hrd2, hg2⟩
  have hG2 := grownBy_trans hG1 hg2
  have hown2 := own_row hown1 hg2 hbw
  obtain ⟨Y, rfl⟩ := Int.eq_ofNat_of_zero_le hy0
  clear hg2 hG1 hown1 hrd1'
  go_wp2_with fail
  refine (pick 40 b _ _ hrd2 (by omega) (by omega) (by omega)).mono ?_
  rintro e w3 ⟨z, hz0', hz40, rfl, hrd3, hg3⟩
  have hG3 := grownBy_trans hG2 hg3
  have hown3 := own_row hown2 hg3 hbw
  have hz39 := div_cases12 (m := 39) hz0' (by omega) (by omega)
  have hzd : z / 39 = z.tdiv 39 := (Int.tdiv_eq_ediv_of_nonneg hz0').symm
  obtain ⟨Z, hZ⟩ : ∃ Z : Int, z.tdiv 39 = Z := ⟨_, rfl⟩
  rw [hZ] at hz39 hzd
  obtain ⟨K, hK, hK8⟩ : ∃ K : Nat, ((Y : Int) + Z) = (K : Int) ∧ K ≤ 5 := ⟨Y + Z.toNat, by omega, by omega⟩
  have Hg := Lib.hid (And.intro hG3 (And.intro hown3 (hrd3.mono (show _ ≤ 100 by omega))))
  clear hg3 hG2 hown2 hrd2 hG3 hown3 hrd3 hm hmi
  go_wp2
  go_loopw [8, 9] (fun v i wr => ∃ (j : Nat) (rs : List RT), j + rs.length ≤ 5 ∧ i = .int .i64 j ∧ (∃ ao cp, v = .slice ao rs.length cp) ∧ TermsIn wr w0.heap.size v rs ∧ (∀ r ∈ rs, r.2.length ≤ 20) ∧ Rd wr b (100 + 100 * rs.length) ∧ w0.grownBy wr (some b))
    (fun _ i _ => (intOf i).toNat)
  case atStart => exact ⟨K, [], by simp <;> omega, by rw [← hK], ⟨_, _, rfl⟩, ⟨Hg.out.2.1, fun q hq => by simp at hq⟩, fun r hr => by simp at hr, Hg.out.2.2, Hg.out.1⟩
  case round =>
    clear Hg hy0 hy5 hz0' hz40 hz39 hzd hZ hK
    obtain ⟨j, rs, hj, rfl, ⟨ao, cp, rfl⟩, hst, hsm, hrk, hGk⟩ := hrel
    by_cases hlt : 0 < j
    · obtain ⟨j, rfl⟩ : ∃ i, j = i + 1 := ⟨j - 1, by omega⟩
      go_wp2_with fail
      refine (l20TermW p 30 b _ _ hrk hp1 hp8 (by omega) (by omega)).mono ?_
      rintro e w4 ⟨g, n4, cap, ms, rfl, hn4, hown, hi64, hn20, hrd4, hg4⟩
      subst hn4
      have hst4 := hst.row hg4 hbw
      have hG4 := grownBy_trans hGk hg4
      have hsz4 := hG4.size
      have hu := own_mono hown hGk.size
      have Hst4 := Lib.hid hst4
      have HG4 := Lib.hid hG4
      have Hrd4 := Lib.hid hrd4
      have Hu := Lib.hid hu
      clear hrk hGk hg4 hst hown hst4 hG4 hrd4 hu
      go_wp2_with (first
        | (at_builtin; refine wpList_append_own _ rfl _ _ 23 rfl w0.heap.size TS i1 (.slice none 0 0) 1 24 Try.underlying23 Hi.out Hz0.out Hz1.out Hz2.out rfl (by decide) _ _ _ rfl (Hst4.out.1.alloc _) ⟨w4.heap.size, 0, none⟩ 1 1 [.slice (some ⟨g, 0, none⟩) ms.length cap] rfl rfl (news1 _ _ rfl _ _) (by simp [Value.oneCell']) (by unfold maxLen; omega) (by omega) (by simp; omega) ?_
           go_must (intro v8 w8 hown8 hgr8 _
                    have hG8 := grown_own (only_alloc HG4.out _) hgr8 (fun q hq => (Hst4.out.1.lt q hq).1)
                    have hrd8 := (Hrd4.out.alloc _).grown hgr8 (own_row_block Hst4.out.1 hbw)
                    have hst8 := (Hst4.out.alloc _).push (q := (.slice (some ⟨g, 0, none⟩) ms.length cap, ms)) ⟨Hu.out.alloc _, hi64⟩ hown8 hgr8
                    obtain ⟨f8, c8, hv8⟩ : ∃ f8 c8, v8 = .slice f8 (rs.length + 1) c8 := by
                      rcases hown8.2 with ⟨_, hn⟩ | ⟨g', cap', cur, hv, _⟩
                      · omega
                      · exact ⟨_, _, hv⟩
                    subst hv8
                    have HG8 := Lib.hid hG8
                    have Hrd8 := Lib.hid hrd8
                    have Hst8 := Lib.hid hst8
                    clear hown8 hgr8 hG8 hrd8 hst8))
        | fail)
      go_wp2
      go_roundw
      case rel => exact ⟨j, rs ++ [(.slice (some ⟨g, 0, none⟩) ms.length cap, ms)], by simp; omega, by go_num, ⟨f8, c8, by simp⟩, Hst8.out, fun r hr => by
        rcases List.mem_append.1 hr with hr | hr
        · exact hsm r hr
        · rw [List.mem_singleton] at hr; subst hr; exact hn20, Hrd8.out.mono (by simp; omega), HG8.out⟩
      case measure => simp [intOf]
    · obtain rfl : j = 0 := by omega
      have Hout := Lib.hid (show TermsIn wr w.heap.size (.slice ao rs.length cp) rs ∧ Below w.heap.size w wr from ⟨hst.mono (by omega), below_of_grown hbel (by omega) hGk⟩)
      clear hGk hst hrk
      go_wp2
      go_ret3
      exact ⟨p, x, _, rs, ⟨hp1, hp8, hx0, hx32⟩, rfl, Hout.out.1, hsm, by omega, Hout.out.2⟩
end Go.Proofs.Ythiabicleedleaa
/- Contract of the reference's stories made for a world. -/
namespace Go.Proofs.Ythiabicleedleaa
open Go.RowKit Go.Joins
theorem madeC_noclaim {p : Int} {X k : Nat} {ms : List (Int × Int)} (h : claimOk p ((k : Int), ms) = false) : madeC p X k ms = none := by unfold madeC; rw [h]; rfl
theorem madeC_may {p : Int} {X k : Nat} {ms : List (Int × Int)} (h : claimOk p ((k : Int), ms) = true) (hm : mayT p ((k : Int), ms) X = true) : madeC p X k ms = some ((k : Int), ms) := by unfold madeC; rw [h, hm]; rfl
theorem madeC_nodeny {p : Int} {X k : Nat} {ms : List (Int × Int)} (h : claimOk p ((k : Int), ms) = true) (hm : mayT p ((k : Int), ms) X = false) (hd : denyOk p ((k : Int), ms) = false) : madeC p X k ms = none := by unfold madeC; rw [h, hm, hd]; rfl
theorem madeC_deny {p : Int} {X k : Nat} {ms : List (Int × Int)} (h : claimOk p ((k : Int), ms) = true) (hm : mayT p ((k : Int), ms) X = false) (hd : denyOk p ((k : Int), ms) = true) : madeC p X k ms = some (denyV p ((k : Int), ms)) := by unfold madeC; rw [h, hm, hd]; rfl
theorem deny_wf {p k : Int} {ms : List (Int × Int)} (hi : I64s ms) (hk : I64 k) : I64s (denyV p (k, ms)).2 ∧ I64 (denyV p (k, ms)).1 := by
  unfold denyV
  split
  · unfold denyL
    exact ⟨I64s_append hi (I64s_one (I64_small (by omega) (by omega)) (I64_small (by omega) (by omega))), hk⟩
  · exact ⟨fun m hm => by simp at hm, I64_small (by show (-100 : Int) ≤ 0; omega) (by show (0 : Int) ≤ 100; omega)⟩
attribute [local irreducible] holds tabN tabV holdsV sameV followsV alwaysV matterV claimOk mayT mayV ctabV ctabN storyV storyOk storyN storyT ctermV ctermL denyV denyOk madeC madeK madeF mcells
set_option maxRecDepth 100000 in
set_option maxHeartbeats 8000000 in
theorem specMadeStory (p x : Int) (rs : List RT) (hsz : ∀ r ∈ rs, r.2.length ≤ 2000000) (B : Nat) (v : Value) (w : World) (hr : RdTerms w B v rs) (hB : B ≤ w.heap.size) :
    Calls Try.prog 11 #[.int .i64 p, .int .i64 x, v] w (StoryOut ((madeF p x (rs.map (·.2))).getD []) (madeF p x (rs.map (·.2))).isSome w) := by
  obtain ⟨ic, hci, hcz0, hcz1, hcz2⟩ := info_parts Try.infoC12
  have Ci := Lib.hid hci; clear hci
  have Cz0 := Lib.hid hcz0; clear hcz0
  have Cz1 := Lib.hid hcz1; clear hcz1
  have Cz2 := Lib.hid hcz2; clear hcz2
  obtain ⟨im, hmi, hmz0, hmz1, hmz2⟩ := info_parts Try.infoM12
  have Mi := Lib.hid hmi; clear hmi
  have Mz0 := Lib.hid hmz0; clear hmz0
  have Mz1 := Lib.hid hmz1; clear hmz1
  have Mz2 := Lib.hid hmz2; clear hmz2
  obtain ⟨wo, rfl⟩ : ∃ wo : World, wo = w := ⟨_, rfl⟩
  have hown0 : (wo.alloc (.cells #[] TC)).ownsRow wo.heap.size TC 2 (.slice (some ⟨wo.heap.size, 0, none⟩) 0 0) 0 [] := World.ownsRow_made _ _ 0 (Nat.le_refl _) (by unfold maxLen; omega) rfl
  have hb0 : Below wo.heap.size wo (wo.alloc (.cells #[] TC)) := (Below.refl _ _).alloc (Nat.le_refl _) _
  have hst0 : StoryIn (wo.alloc (.cells #[] TC)) wo.heap.size wo.heap.size (.slice (some ⟨wo.heap.size, 0, none⟩) 0 0) [] := ⟨hown0, fun q hq => by simp at hq⟩
  obtain ⟨lo, lc, rfl, hll, hlm⟩ : ∃ lo lc, v = .slice lo rs.length lc ∧ rs.length ≤ lc ∧ lc ≤ maxLen := by
    obtain ⟨a, c, h1, h2, h3, _⟩ := hr; exact ⟨a, c, h1, h2, h3⟩
  unfold maxLen at hlm
  have Hb0 := Lib.hid hb0
  have Hst0 := Lib.hid hst0
  have Hsz := Lib.hid hsz
  clear hown0 hb0 hst0 hsz
  cases hw : wOk p x with
  | false =>
    have Hf : Hid (madeF p x (rs.map (·.2)) = none) := by unfold Hid madeF; rw [hw]; rfl
    have Hw := Lib.hid hw
    clear hr hw
    go_enter Try.func11, Try.ntmps11
    go_wp2_with fail
    refine (specWorldOk p x _).mono ?_
    rintro e w' ⟨rfl, rfl⟩
    rw [Hw.out]
    go_wp2
    go_ret2
    exact ⟨_, [], by rw [Hf.out]; rfl, by rw [Hf.out]; rfl, Hst0.out, List.Pairwise.nil, Hb0.out⟩
  | true =>
  by_cases hlen : (rs.length : Int) ≤ p
  case neg =>
    have Hf : Hid (madeF p x (rs.map (·.2)) = none) := by unfold Hid madeF; rw [hw, List.length_map, decide_eq_false hlen]; rfl
    have hgt : p < (rs.length : Int) := by omega
    have Hw := Lib.hid hw
    clear hr hw hlen
    go_enter Try.func11, Try.ntmps11
    go_wp2_with fail
    refine (specWorldOk p x _).mono ?_
    rintro e w' ⟨rfl, rfl⟩
    rw [Hw.out]
    go_wp2
    go_ret2
    exact ⟨_, [], by rw [Hf.out]; rfl, by rw [Hf.out]; rfl, Hst0.out, List.Pairwise.nil, Hb0.out⟩
  obtain ⟨hp1, hp4, hx0, hx16⟩ := wOk_lt hw
  obtain ⟨X, rfl⟩ := Int.eq_ofNat_of_zero_le hx0
  have hX16 : X < 16 := by omega
  have hgt : ¬ p < (rs.length : Int) := by omega
  have Hf0 : Hid (madeF p (X : Int) (rs.map (·.2)) = madeK p X (rs.map (·.2)) rs.length) := by unfold Hid madeF; rw [hw, List.length_map, decide_eq_true hlen, Int.toNat_natCast]; rfl
  have Hbad : Hid (∀ k, k < rs.length → madeC p X k (rs.getD k rt0).2 = none → madeF p (X : Int) (rs.map (·.2)) = none) := fun k hk hc => by
    rw [Hf0.out]
    refine madeK_none (k := k) ?_ _ hk
    rw [show (rs.map (·.2)).getD k [] = (rs.getD k rt0).2 by simp [List.getD, hk]]
    exact hc
  have Hgood : Hid (∀ k, k < rs.length → ∀ l c, madeK p X (rs.map (·.2)) k = some l → madeC p X k (rs.getD k rt0).2 = some c → madeK p X (rs.map (·.2)) (k + 1) = some (l ++ [c])) := fun k hk l c hl hc => by
    refine madeK_some hl ?_
    rw [show (rs.map (·.2)).getD k [] = (rs.getD k rt0).2 by simp [List.getD, hk]]
    exact hc
  have Hk0 : Hid (madeK p X (rs.map (·.2)) 0 = some []) := by unfold Hid madeK; rfl
  have Hw := Lib.hid hw
  have Hr := Lib.hid hr
  have hlen4 : rs.length ≤ 4 := by omega
  clear hr hw hlen
  generalize madeK p X (rs.map (·.2)) = MK at *
  generalize madeF p (X : Int) (rs.map (·.2)) = MF at *
  go_enter Try.func11, Try.ntmps11
  go_wp2_with fail
  refine (specWorldOk p (X : Int) _).mono ?_
  rintro e w' ⟨rfl, rfl⟩
  rw [Hw.out]
  go_wp2
  go_loopw [8, 9, 10, 11, 12] (fun u i _ _ _ wr => ∃ (k : Nat) (us : List QC), k ≤ rs.length ∧ us.length = k ∧ i = .int .i64 k ∧ MK k = some (us.map (·.2)) ∧ (∃ ao cp, u = .slice ao k cp) ∧ StoryIn wr wo.heap.size wo.heap.size u us ∧ Apart us ∧ Below wo.heap.size wo wr) (fun _ i _ _ _ _ => rs.length - (intOf i).toNat)
  case atStart => exact ⟨0, [], Nat.zero_le _, rfl, rfl, Hk0.out, ⟨_, _, rfl⟩, Hst0.out, List.Pairwise.nil, Hb0.out⟩
  case round =>
    obtain ⟨k, us, hk, hul, rfl, hmk, ⟨uo, uc, rfl⟩, hst, hap, hbel⟩ := hrel
    by_cases hlt : k < rs.length
    · have Hrs := Lib.hid (Hr.out.below (w' := wr) (fun q hq => hbel.block q (by omega)))
      have hmr := Hrs.out.get hlt
      obtain ⟨ao', cap', hv', _, _, _, hc0⟩ := Hrs.out
      obtain ⟨b, off, hao, hb, hc1⟩ := hc0 k hlt
      injection hv' with hv1 hv2 hv3
      subst hv1 hv3
      subst hao
      have hms := Hsz.out (rs.getD k rt0) (by rw [show rs.getD k rt0 = rs[k] by simp [List.getD, hlt]]; exact List.getElem_mem hlt)
      have hbadk := Hbad.out k hlt
      have hgoodk := Hgood.out k hlt
      clear hc0 hv2
      generalize rs.getD k rt0 = q at *
      obtain ⟨u, ms⟩ := q
      dsimp only at hc1 hmr hms hbadk hgoodk
      have hwr : wo.heap.size ≤ wr.heap.size := hbel.size
      have hbw : b < wr.heap.size := by omega
      have hi64 : I64s ms := by obtain ⟨_, _, _, _, _, hi, _⟩ := hmr; exact hi
      have hkI : I64 (k : Int) := I64_small (by omega) (by omega)
      have hbn : Below wr.heap.size wr (wr.alloc (.cells #[] TM)) := (Below.refl _ _).alloc (Nat.le_refl _) _
      have Hnew := Lib.hid (show (wr.alloc (.cells #[] TM)).ownsRow wr.heap.size TM 2 (.slice (some ⟨wr.heap.size, 0, none⟩) 0 0) 0 [] from World.ownsRow_made _ _ 0 (Nat.le_refl _) (by unfold maxLen; omega) rfl)
      have Hrd := Lib.hid (hmr.below (w' := wr.alloc (.cells #[] TM)) (fun q hq => hbn.block q (by omega)))
      have Hbn := Lib.hid hbn
      have Hgk := Lib.hid hgoodk
      have Hbk := Lib.hid hbadk
      have Hmk := Lib.hid hmk
      have Hst := Lib.hid hst
      have Hap := Lib.hid hap
      have Hbel := Lib.hid hbel
      clear hmr hbn hgoodk hbadk hmk hst hap hbel
      go_upto_region 8 with (first
        | (at_builtin; refine wpList_append_marks12 rfl (.tmp 32) (.tmp 36) rfl Mi.out Mz0.out Mz1.out Mz2.out rfl rfl Hnew.out Hrd.out (by omega) (by simp) ?_
           go_must (intro v2 w2 hown2 hgr2 _
                    rw [Nat.zero_add, List.nil_append] at hown2
                    have hb2 : Below wr.heap.size wr w2 := Hbn.out.grown hgr2 (by simp) (fun q hq => (Hnew.out.lt q hq).1)
                    obtain ⟨fo, fc, hv2⟩ := own_len hown2
                    subst hv2
                    have Hown2 := Lib.hid hown2
                    have Hb2 := Lib.hid hb2
                    clear hown2 hgr2 hb2))
        | fail)
      obtain ⟨w3, hw3, hx3, hb3, hs3⟩ := Box.new w2 (.int .i64 (k : Int)) (.slice fo ms.length fc) TC
      rw [← hw3]
      have Hown3 := Lib.hid (own_below Hown2.out hb3)
      have Hb3 := Lib.hid (Hb2.out.trans (hb3.mono Hb2.out.size))
      have HX3 := Lib.hid hx3
      obtain ⟨x1, x2, x3, x4, x5⟩ := hx3
      have hs23 := Hb2.out.size
      have hg3 := hs3
      clear hw3 hb3
      have hcl := fun w h hB => specClaimOk p (k : Int) ms w3.heap.size (.slice fo ms.length fc) w h hB
      cases hok : claimOk p ((k : Int), ms) with
      | false =>
        have Hf := Lib.hid (Hbk.out (madeC_noclaim hok))
        rw [hok] at hcl
        have Hcl := Lib.hid hcl
        clear hcl hok
        go_wp2_with fail
        refine (Hcl.out _ (RdMarks.of_own Hown3.out hi64) (Nat.le_refl _)).mono ?_
        rintro e w4 ⟨rfl, hb4⟩
        have Hb4 := Lib.hid (Hb3.out.trans (hb4.mono Hb3.out.size))
        clear hb4
        have HB4x := Lib.hid (Hbel.out.trans (Hb4.out.mono hwr))
        go_wp2
        go_ret2
        have hbx := HB4x.out.size
        exact ⟨_, [], by rw [Hf.out]; rfl, by rw [Hf.out]; rfl, ⟨World.ownsRow_made _ _ 0 (by first | omega | (simp; omega)) (by unfold maxLen; omega) rfl, fun q hq => by simp at hq⟩, List.Pairwise.nil, by first | exact HB4x.out.alloc hbx _ | exact (HB4x.out.alloc hbx _).alloc (by simp; omega) _⟩
      | true =>
        have hm13 : ms.length ≤ 13 := (claimOk_iff.1 hok).2.2.2
        have Hmay := Lib.hid (fun w h hB => specMayT hok X hX16 w3.heap.size (.slice fo ms.length fc) w h hB)
        rw [hok] at hcl
        have Hcl := Lib.hid hcl
        clear hcl
        cases hmay : mayT p ((k : Int), ms) X with
        | true =>
          have Hnext := Lib.hid (Hgk.out _ _ Hmk.out (madeC_may hok hmay))
          rw [hmay] at Hmay
          have Hki : Hid (I64s ms ∧ I64 (k : Int)) := ⟨hi64, hkI⟩
          clear hok hmay
          go_wp2_with fail
          refine (Hcl.out _ (RdMarks.of_own Hown3.out hi64) (Nat.le_refl _)).mono ?_
          rintro e w4 ⟨rfl, hb4⟩
          have Hown4 := Lib.hid (own_below Hown3.out hb4)
          have Hrd4 := Lib.hid ((RdMarks.of_own Hown3.out hi64).below (w' := w4) hb4.block)
          have hs4 := hb4.size
          obtain ⟨x1, x2, x3, x4, x5⟩ := HX3.out.below hb4
          have HX4 := Lib.hid (HX3.out.below hb4)
          have Hb4 := Lib.hid (Hb3.out.trans (hb4.mono Hb3.out.size))
          clear hb4
          go_wp2_with fail
          refine (Hmay.out _ Hrd4.out hs4).mono ?_
          rintro e wC ⟨rfl, hb5⟩
          have HoC := own_below Hown4.out hb5
          have HbC := Hb4.out.trans (hb5.mono Hb4.out.size)
          obtain ⟨x1, x2, x3, x4, x5⟩ := HX4.out.below hb5
          clear hb5
          obtain ⟨dk, hdk⟩ : ∃ dk : Int, dk = (k : Int) := ⟨_, rfl⟩
          obtain ⟨dm, hdm⟩ : ∃ dm, dm = ms := ⟨_, rfl⟩
          rw [← hdk, ← hdm] at Hnext
          rw [← hdk] at x1
          subst hdm
          rw [← hdk] at Hki
          clear hdk
          have hbC2 := Hbel.out.trans (HbC.mono hwr)
          have hsC := hbC2.size
          have Hall := Lib.hid (fun v' w5 h1 h2 => story_pushed (w5 := w5) (v' := v') (u := .slice fo dm.length fc) (k := dk) (ms := dm) (o := .cells #[.int .i64 dk, .slice fo dm.length fc] TC) hbC2 (Hst.out.below HbC) Hap.out (fun r hr k hk => ((Hst.out.2 r hr).1.lt k hk).2) HoC hwr Hki.out.1 Hki.out.2 h1 h2)
          have HstC := Lib.hid ((Hst.out.below HbC).1)
          clear hbC2 HbC HoC
          go_wp2_with (at_builtin; refine wpList_append_own _ rfl _ _ 26 rfl wo.heap.size TC ic (.agg #[.int .i64 0, .slice none 0 0]) 2 32 Try.underlying26 Ci.out Cz0.out Cz1.out Cz2.out rfl (by decide) _ _ _ rfl (HstC.out.alloc _) ⟨wC.heap.size, 0, none⟩ 1 1 (ccells [(.slice fo dm.length fc, (dk, dm))]) rfl rfl (newsC _ _ rfl _ _ _ _) (ccells_one (by simp [Value.oneCell'])) (by unfold maxLen; omega) (by omega) (by simp; omega) ?_)
          intro v' w5 hown' hgrow _
          have Hout := Lib.hid (Hall.out v' w5 (by rw [hul]; exact hown') hgrow)
          obtain ⟨ao', cp', rfl⟩ := own_len hown'
          clear hown' hgrow Hall HstC
          go_wp2
          go_roundw
          case rel => exact ⟨k + 1, us ++ [(.slice fo dm.length fc, (dk, dm))], by omega, by simp [hul], by go_num, by rw [List.map_append]; exact Hnext.out, ⟨ao', cp', by simp⟩, Hout.out.1, Hout.out.2.1, Hout.out.2.2⟩
          case measure => simp [intOf]; omega
        | false =>
        have hdw := deny_wf (p := p) (k := (k : Int)) hi64 hkI
        have Hdn := Lib.hid (fun w h hB => specDenyClaim p (k : Int) ms w3.heap.size (.slice fo ms.length fc) w h hB (by omega))
        rw [hmay] at Hmay
        cases hd : denyOk p ((k : Int), ms) with
        | false =>
          have Hf := Lib.hid (Hbk.out (madeC_nodeny hok hmay hd))
          rw [hd] at Hdn
          unfold ClaimOut at Hdn
          generalize denyV p ((k : Int), ms) = dd at *
          obtain ⟨dk, dm⟩ := dd
          dsimp only at Hdn
          clear hok hmay hd hdw
          go_wp2_with fail
          refine (Hcl.out _ (RdMarks.of_own Hown3.out hi64) (Nat.le_refl _)).mono ?_
          rintro e w4 ⟨rfl, hb4⟩
          have Hrd4 := Lib.hid ((RdMarks.of_own Hown3.out hi64).below (w' := w4) hb4.block)
          have hs4 := hb4.size
          obtain ⟨x1, x2, x3, x4, x5⟩ := HX3.out.below hb4
          have HX4 := Lib.hid (HX3.out.below hb4)
          have Hb4 := Lib.hid (Hb3.out.trans (hb4.mono Hb3.out.size))
          clear hb4
          go_wp2_with fail
          refine (Hmay.out _ Hrd4.out hs4).mono ?_
          rintro e w6 ⟨rfl, hb6⟩
          have Hrd6 := Lib.hid (Hrd4.out.below (w' := w6) (fun q hq => hb6.block q (by omega)))
          have hs6 : w3.heap.size ≤ w6.heap.size := by have := hb6.size; omega
          obtain ⟨x1, x2, x3, x4, x5⟩ := HX4.out.below hb6
          have Hb6 := Lib.hid (Hb4.out.trans (hb6.mono Hb4.out.size))
          clear hb6
          go_wp2_with fail
          refine (Hdn.out _ Hrd6.out hs6).mono ?_
          rintro e w7 ⟨v7, rfl, hown7, hb7⟩
          obtain ⟨f7, c7, hv7⟩ := own_len hown7
          subst hv7
          have Hb7 := Lib.hid (Hb6.out.trans (hb7.mono Hb6.out.size))
          clear hb7 hown7
          go_upto_region 12 with fail
          obtain ⟨w8, hw8, hx8, hb8, hs8⟩ := Box.new w7 (.int .i64 dk) (.slice f7 dm.length c7) TC
          rw [← hw8]
          have Hb8 := Lib.hid (Hb7.out.trans (hb8.mono Hb7.out.size))
          clear hw8 hx8 hb8
          have HB8x := Lib.hid (Hbel.out.trans (Hb8.out.mono hwr))
          go_wp2
          go_ret2
          have hbx := HB8x.out.size
          exact ⟨_, [], by rw [Hf.out]; rfl, by rw [Hf.out]; rfl, ⟨World.ownsRow_made _ _ 0 (by first | omega | (simp; omega)) (by unfold maxLen; omega) rfl, fun q hq => by simp at hq⟩, List.Pairwise.nil, by first | exact HB8x.out.alloc hbx _ | exact (HB8x.out.alloc hbx _).alloc (by simp; omega) _⟩
        | true =>
          have Hnext := Lib.hid (Hgk.out _ _ Hmk.out (madeC_deny hok hmay hd))
          rw [hd] at Hdn
          unfold ClaimOut at Hdn
          generalize denyV p ((k : Int), ms) = dd at *
          obtain ⟨dk, dm⟩ := dd
          dsimp only at Hdn hdw
          have Hki : Hid (I64s dm ∧ I64 dk) := hdw
          clear hok hmay hd hdw
          go_wp2_with fail
          refine (Hcl.out _ (RdMarks.of_own Hown3.out hi64) (Nat.le_refl _)).mono ?_
          rintro e w4 ⟨rfl, hb4⟩
          have Hrd4 := Lib.hid ((RdMarks.of_own Hown3.out hi64).below (w' := w4) hb4.block)
          have hs4 := hb4.size
          obtain ⟨x1, x2, x3, x4, x5⟩ := HX3.out.below hb4
          have HX4 := Lib.hid (HX3.out.below hb4)
          have Hb4 := Lib.hid (Hb3.out.trans (hb4.mono Hb3.out.size))
          clear hb4
          go_wp2_with fail
          refine (Hmay.out _ Hrd4.out hs4).mono ?_
          rintro e w6 ⟨rfl, hb6⟩
          have Hrd6 := Lib.hid (Hrd4.out.below (w' := w6) (fun q hq => hb6.block q (by omega)))
          have hs6 : w3.heap.size ≤ w6.heap.size := by have := hb6.size; omega
          obtain ⟨x1, x2, x3, x4, x5⟩ := HX4.out.below hb6
          have HX6 := Lib.hid (HX4.out.below hb6)
          have Hb6 := Lib.hid (Hb4.out.trans (hb6.mono Hb4.out.size))
          clear hb6
          go_wp2_with fail
          refine (Hdn.out _ Hrd6.out hs6).mono ?_
          rintro e w7 ⟨v7, rfl, hown7, hb7⟩
          obtain ⟨fo, fc, hv7⟩ := own_len hown7
          subst hv7
          have hs7 := hb7.size
          go_upto_region 12 with fail
          obtain ⟨w8, hw8, hx8, hb8, hs8⟩ := Box.new w7 (.int .i64 dk) (.slice fo dm.length fc) TC
          rw [← hw8]
          have hy8 := (HX6.out.below hb7).below hb8
          have hown8 := own_below hown7 hb8
          have hb38 := Hb6.out.trans ((hb7.trans (hb8.mono hb7.size)).mono Hb6.out.size)
          obtain ⟨z1, z2, z3, z4, z5⟩ := hx8
          obtain ⟨x1, x2, x3, x4, x5⟩ := hy8
          obtain ⟨wC, eC, hxC, hgC⟩ := Box.set (w := w8) (g := w2.heap.size) ⟨x1, x2, x3, x4, x5⟩ (.int .i64 dk) (.slice fo dm.length fc)
          have HoC := own_row (own_mono (base := w2.heap.size + 1) hown8 (by omega)) hgC (by omega)
          have HbC := hb38.grown hgC (by have := hb38.size; omega) (fun q hq => by cases hq; omega)
          have HoC := own_mono (base := wr.heap.size) HoC (by omega)
          have EC := Lib.hid eC
          have HXC := Lib.hid hxC
          have HoC' := Lib.hid HoC
          have HbC' := Lib.hid HbC
          clear hw8 hb7 hb8 hown7 hown8 hb38 hgC eC hxC HoC HbC
          go_upto_region 15 with fail
          rw [← EC.out]
          clear x1 x2 x3 x4 x5 z1 z2 z3 z4 z5
          obtain ⟨x1, x2, x3, x4, x5⟩ := HXC.out
          have HoC := HoC'.out
          have HbC := HbC'.out
          have hbC2 := Hbel.out.trans (HbC.mono hwr)
          have hsC := hbC2.size
          have Hall := Lib.hid (fun v' w5 h1 h2 => story_pushed (w5 := w5) (v' := v') (u := .slice fo dm.length fc) (k := dk) (ms := dm) (o := .cells #[.int .i64 dk, .slice fo dm.length fc] TC) hbC2 (Hst.out.below HbC) Hap.out (fun r hr k hk => ((Hst.out.2 r hr).1.lt k hk).2) HoC hwr Hki.out.1 Hki.out.2 h1 h2)
          have HstC := Lib.hid ((Hst.out.below HbC).1)
          clear hbC2 HbC HoC
          go_wp2_with (at_builtin; refine wpList_append_own _ rfl _ _ 26 rfl wo.heap.size TC ic (.agg #[.int .i64 0, .slice none 0 0]) 2 32 Try.underlying26 Ci.out Cz0.out Cz1.out Cz2.out rfl (by decide) _ _ _ rfl (HstC.out.alloc _) ⟨wC.heap.size, 0, none⟩ 1 1 (ccells [(.slice fo dm.length fc, (dk, dm))]) rfl rfl (newsC _ _ rfl _ _ _ _) (ccells_one (by simp [Value.oneCell'])) (by unfold maxLen; omega) (by omega) (by simp; omega) ?_)
          intro v' w5 hown' hgrow _
          have Hout := Lib.hid (Hall.out v' w5 (by rw [hul]; exact hown') hgrow)
          obtain ⟨ao', cp', rfl⟩ := own_len hown'
          clear hown' hgrow Hall HstC
          go_wp2
          go_roundw
          case rel => exact ⟨k + 1, us ++ [(.slice fo dm.length fc, (dk, dm))], by omega, by simp [hul], by go_num, by rw [List.map_append]; exact Hnext.out, ⟨ao', cp', by simp⟩, Hout.out.1, Hout.out.2.1, Hout.out.2.2⟩
          case measure => simp [intOf]; omega
    · obtain rfl : k = rs.length := by omega
      have Hst := Lib.hid hst
      have Hap := Lib.hid hap
      have Hbel := Lib.hid hbel
      have Hmf : Hid (MF = some (us.map (·.2))) := by unfold Hid; rw [Hf0.out]; exact hmk
      clear hst hmk hap hbel
      go_wp2
      go_ret2
      exact ⟨_, us, by rw [Hmf.out]; rfl, by rw [Hmf.out]; rfl, Hst.out, Hap.out, Hbel.out⟩
end Go.Proofs.Ythiabicleedleaa
/- Contract of slices.Clone at rows of marks: a new row of the same marks. -/
namespace Go.Proofs.Ythiabicleedleaa
open Go.RowKit Go.Joins
theorem below_grownC {B : Nat} {w w1 w2 : World} {row : Option Nat} (h : Below B w w1) (hg : w1.grownBy w2 row) (hB : B ≤ w1.heap.size) (hr : ∀ k, row = some k → B ≤ k) : Below B w w2 :=
  h.trans ⟨hg.os, hg.tape, hg.output, hg.size, fun i hi => hg.block i (by omega) (fun e => by have := hr i e.symm; omega)⟩
theorem mcells_nilI : mcells [] = [] := rfl
set_option maxRecDepth 100000 in
set_option maxHeartbeats 1000000 in
theorem implClone (ms : List (Int × Int)) (B : Nat) (u : Value) (w : World) (hr : RdMarks w B u ms) (hB : B ≤ w.heap.size) (hl : ms.length ≤ 1000) :
    Calls Try.prog 62 #[u] w (RowOut ms w) := by
  obtain ⟨im, hmi, hmz0, hmz1, hmz2⟩ := info_parts Try.infoM
  have Hr := Lib.hid hr
  obtain ⟨ao, cap, rfl, hlc, hcm, _, hc⟩ := hr
  cases ao with
  | none =>
    have h0 : ms = [] := by
      cases ms with
      | nil => rfl
      | cons m r =>
        obtain ⟨_, _, he, _⟩ := hc 0 (by simp)
        cases he
    subst h0
    clear Hr hc hmi hmz0 hmz1 hmz2
    have qT : ∀ (w : World), (binOp .eql 31 (.slice none 0 cap) (.slice none 0 0)).run Try.prog w = .ok (.bool true) w := fun w => Lib.run_eql_slice_nil w _ _ none _ _ _ _ Try.underlying31
    go_enter Try.func62, Try.ntmps62
    go_wp2
    go_ret
    exact ⟨_, rfl, by rw [mcells_nilI]; exact World.ownsRow_nil _ _ _ _, Below.refl _ _⟩
  | some a =>
    have hb1 : Below w.heap.size w (w.alloc (.cells #[] TM)) := (Below.refl _ _).alloc (Nat.le_refl _) _
    have hmade : (w.alloc (.cells #[] TM)).ownsRow w.heap.size TM 2 (.slice (some ⟨w.heap.size, 0, none⟩) 0 0) 0 [] := World.ownsRow_made _ _ 0 (Nat.le_refl _) (by unfold maxLen; omega) rfl
    obtain ⟨v4, w4, hrun, hown4, hgr4, _⟩ := append_rd hmi hmz0 hmz1 hmz2 hmade (Hr.out.below (w' := w.alloc (.cells #[] TM)) (fun q hq => hb1.block q (by omega))) (by omega) (by simp)
    have hb4 := below_grownC hb1 hgr4 (by simp) (fun q hq => by cases hq; exact Nat.le_refl _)
    rw [Nat.zero_add, List.nil_append] at hown4
    have Hrun := Lib.hid hrun
    have Hown4 := Lib.hid hown4
    have Hb4 := Lib.hid hb4
    clear hrun hown4 hb4 hgr4 hmade hb1 hc Hr hmi hmz0 hmz1 hmz2
    have qT : ∀ (w : World), (binOp .eql 31 (.slice (some a) ms.length cap) (.slice none 0 0)).run Try.prog w = .ok (.bool false) w := fun w => Lib.run_eql_slice_nil w _ _ (some a) _ _ _ _ Try.underlying31
    go_enter Try.func62, Try.ntmps62
    go_wp2_with (first
      | (at_builtin; refine Lib.wpList_append_run _ rfl _ _ _ _ rfl _ _ rfl rfl _ _ Hrun.out ?_)
      | fail)
    go_wp2
    go_ret
    exact ⟨_, rfl, Hown4.out, Hb4.out⟩
end Go.Proofs.Ythiabicleedleaa

/- The reference model's drawn terms: a row of marks of the call's own, not long. -/
import Derived.Test.YthiabicleedleaaMerged6
namespace Go.Proofs.Ythiabicleedleaa
open Go.RowKit Go.Joins

def DrewM (b c : Nat) (w : World) (e : Ending) (w' : World) : Prop :=
  ∃ (g n cap : Nat) (ms : List (Int × Int)), e = .returned (.slice (some ⟨g, 0, none⟩) n cap) ∧ ms.length = n ∧ w'.ownsRow w.heap.size TM 2 (.slice (some ⟨g, 0, none⟩) n cap) n (mcells ms) ∧ I64s ms ∧ n ≤ 20 ∧ Rd w' b c ∧ w.grownBy w' (some b)
set_option maxRecDepth 100000 in
set_option maxHeartbeats 2000000 in
theorem l20Term (p : Int) (n : Nat) (b c : Nat) (w : World) (hrd : Rd w b c) (hp1 : 1 ≤ p) (hp4 : p ≤ 4) (hn : n ≤ 1099511627776) (hc : c ≤ 549755813888) :
    Calls Try.prog 37 #[.pointer (some ⟨b, 0, none⟩), .int .i64 p, .int .i64 n] w (DrewM b (c + 100) w) := by
  obtain ⟨i1, hi, hz0, hz1, hz2⟩ := info_parts Try.infoS
  have Hi := Lib.hid hi; clear hi
  have Hz0 := Lib.hid hz0; clear hz0
  have Hz1 := Lib.hid hz1; clear hz1
  have Hz2 := Lib.hid hz2; clear hz2
  obtain ⟨im, hmi, hmz0, hmz1, hmz2⟩ := info_parts Try.infoM
  have Mi := Lib.hid hmi; clear hmi
  have Mz0 := Lib.hid hmz0; clear hmz0
  have Mz1 := Lib.hid hmz1; clear hmz1
  have Mz2 := Lib.hid hmz2; clear hmz2
  have hbw := hrd.lt
  have Hrd := Lib.hid hrd; clear hrd
  have hp : p = 1 ∨ p = 2 ∨ p = 3 ∨ p = 4 := by omega
  go_enter Try.func37, Try.ntmps37
  go_wp2_with fail
  refine (pick _ _ _ _ (Hrd.out.alloc _) (by omega) (by omega) (by omega)).mono ?_
  rintro e w1 ⟨x, hx0, hx1, rfl, hrd1, hg1⟩
  have hG1 : w.grownBy w1 (some b) := grownBy_trans (only_alloc (World.grownBy.refl _ _) _) hg1
  have hown1 : w1.ownsRow w.heap.size TS 1 (.slice (some ⟨w.heap.size, 0, none⟩) 0 0) 0 [] :=
    own_row (World.ownsRow_made _ _ 0 (Nat.le_refl _) (by unfold maxLen; omega) rfl) hg1 hbw
  obtain ⟨X, rfl⟩ := Int.eq_ofNat_of_zero_le hx0
  clear hg1
  go_wp2_with fail
  go_loopw [7, 8] (fun v i wr => ∃ (k : Nat) (ps : List (Value × List (Int × Int))), k + ps.length ≤ 4 ∧ 1 ≤ k + ps.length ∧ i = .int .i64 k ∧ PartsIn wr w.heap.size v ps ∧ tot ps = ps.length ∧ Rd wr b (c + 1 + 2 * ps.length) ∧ w.grownBy wr (some b))
    (fun _ i _ => (intOf i).toNat)
  case atStart => exact ⟨X + 1, [], by simp; omega, by simp, by go_num, ⟨hown1, by simp⟩, rfl, hrd1, hG1⟩
  case round =>
    obtain ⟨k, ps, hk, hk1, rfl, hps, htot, hrk, hGk⟩ := hrel
    by_cases hlt : 0 < k
    · obtain ⟨k, rfl⟩ : ∃ j, k = j + 1 := ⟨k - 1, by omega⟩
      go_wp2_with fail
      refine (pick _ _ _ _ hrk (by omega) (by omega) (by omega)).mono ?_
      rintro e w3 ⟨y, hy0, hy1, rfl, hrk3, hg3⟩
      have hps3 := hps.row hg3 hbw
      have hG3 := grownBy_trans hGk hg3
      have Htot := Lib.hid htot
      clear hrk hGk hg3 hps htot
      by_cases hy : y = 0
      · have hyb : (y == 0) = true := by rw [beq_iff_eq]; exact hy
        clear hy hy0 hy1
        go_wp2_with fail
        refine (pick _ _ _ _ hrk3 (by omega) (by omega) (by omega)).mono ?_
        rintro e w4 ⟨z, hz0, hz1, rfl, hrk4, hg4⟩
        have hps4 := hps3.row hg4 hbw
        have hG4 := grownBy_trans hG3 hg4
        clear hrk3 hG3 hg4 hps3
        have hsz4 := hG4.size
        go_wp2_with (at_builtin; refine wpList_append_own _ rfl _ _ 23 rfl w.heap.size TS i1 (.slice none 0 0) 1 24 Try.underlying23 Hi.out Hz0.out Hz1.out Hz2.out rfl (by decide) _ _ _ rfl ((hps4.1.alloc _).alloc _) ⟨w4.heap.size + 1, 0, none⟩ 1 1 [.slice (some ⟨w4.heap.size, 0, none⟩) 1 1] rfl rfl (news1 _ _ (by simp) _ _) (by simp [Value.oneCell']) (by unfold maxLen; omega) (by omega) (by simp; omega) ?_)
        intro v' w5 hown' hgrow _
        have hall := part_added hbw hps4 (I64_small (by omega) (by omega)) (I64_small (by omega) (by omega)) hG4 hrk4 hown' hgrow
        have Hall := Lib.hid hall
        clear hall hown' hgrow hps4 hrk4 hG4 hsz4
        go_wp2
        go_roundw
        case rel => exact ⟨k, _, by simp; omega, by simp; omega, by go_num, Hall.out.1, by rw [tot_snoc, Htot.out]; simp, Hall.out.2.2.mono (by simp; omega), Hall.out.2.1⟩
        case measure => simp [intOf]
      · have hyb : (y == 0) = false := by rw [beq_eq_false_iff_ne]; exact hy
        clear hy hy0 hy1
        go_wp2_with fail
        refine (pick _ _ _ _ hrk3 (by omega) (by omega) (by omega)).mono ?_
        rintro e w4 ⟨z, hz0, hz1, rfl, hrk4, hg4⟩
        have hps4 := hps3.row hg4 hbw
        have hG4 := grownBy_trans hG3 hg4
        clear hrk3 hG3 hg4 hps3
        have hsz4 := hG4.size
        go_wp2_with (at_builtin; refine wpList_append_own _ rfl _ _ 23 rfl w.heap.size TS i1 (.slice none 0 0) 1 24 Try.underlying23 Hi.out Hz0.out Hz1.out Hz2.out rfl (by decide) _ _ _ rfl ((hps4.1.alloc _).alloc _) ⟨w4.heap.size + 1, 0, none⟩ 1 1 [.slice (some ⟨w4.heap.size, 0, none⟩) 1 1] rfl rfl (news1 _ _ (by simp) _ _) (by simp [Value.oneCell']) (by unfold maxLen; omega) (by omega) (by simp; omega) ?_)
        intro v' w5 hown' hgrow _
        have hall := part_added hbw hps4 (I64_small (by omega) (by omega)) (I64_small (by omega) (by omega)) hG4 hrk4 hown' hgrow
        have Hall := Lib.hid hall
        clear hall hown' hgrow hps4 hrk4 hG4 hsz4
        go_wp2
        go_roundw
        case rel => exact ⟨k, _, by simp; omega, by simp; omega, by go_num, Hall.out.1, by rw [tot_snoc, Htot.out]; simp, Hall.out.2.2.mono (by simp; omega), Hall.out.2.1⟩
        case measure => simp [intOf]
    · obtain rfl : k = 0 := by omega
      have htot1 : tot ps + ps.length + 3 ≤ 11 := by omega
      have hlen1 : 1 ≤ ps.length := by omega
      have hlen4 : ps.length ≤ 4 := by omega
      have hrk' := hrk.mono (show c + 1 + 2 * ps.length ≤ c + 9 by omega)
      clear htot hk hk1 hrk hlt
      rw [show ((0 : Nat) : Int) = 0 from rfl]
      go_wp2_with fail
      go_loopw [7, 9] (fun v i wr => ∃ (l d : Nat) (ps : List PQ), i = .int .i64 l ∧ PartsIn wr w.heap.size v ps ∧ 1 ≤ ps.length ∧ tot ps + ps.length + l ≤ 11 ∧ Rd wr b (c + d) ∧ d + 4 * (ps.length + l) ≤ 40 ∧ w.grownBy wr (some b))
        (fun v i _ => lenV v + (intOf i).toNat)
      case atStart => exact ⟨3, 9, ps, rfl, hps, hlen1, htot1, hrk', by omega, hGk⟩
      case round =>
        clear hps hlen1 hlen4 htot1 hrk' hGk
        obtain ⟨l, d, ps, rfl, hps, hlen1, htot, hrk, hd, hGk⟩ := hrel
        obtain ⟨g, cap, rfl⟩ := ownsRow_form hps.1 (by omega)
        by_cases hmore : 1 < ps.length
        · have hmore' : (1 : Int) < (ps.length : Int) := by omega
          go_wp2_with fail
          refine (pick _ _ _ _ hrk (by omega) (by omega) (by omega)).mono ?_
          rintro e w3 ⟨y, hy0, hy1, rfl, hrk3, hg3⟩
          have hps3 := hps.row hg3 hbw
          have hG3 := grownBy_trans hGk hg3
          clear hrk hGk hg3 hps
          obtain ⟨Y, rfl⟩ := Int.eq_ofNat_of_zero_le hy0
          by_cases hl : 0 < l
          · obtain ⟨l, rfl⟩ : ∃ j, l = j + 1 := ⟨l - 1, by omega⟩
            go_wp2_with fail
            refine (pick _ _ _ _ hrk3 (by omega) (by omega) (by omega)).mono ?_
            rintro e w4 ⟨z, hz0, hz1, rfl, hrk4, hg4⟩
            have hps4 := hps3.row hg4 hbw
            have hG4 := grownBy_trans hG3 hg4
            clear hrk3 hG3 hg4 hps3
            by_cases hz : z = 0
            · have hzb : (z == 0) = true := by rw [beq_iff_eq]; exact hz
              clear hz hz0 hz1
              obtain ⟨gq, cq, hcell, _, hpos, hi64, hownq⟩ := parts_at hps4 (show Y < ps.length by omega)
              have hle := tot_le (show Y < ps.length by omega)
              have hgw : g < w4.heap.size := World.block_lt_of_cell? w4 _ hcell
              have Hps4 := Lib.hid hps4; clear hps4
              have hpart : Hid (∀ (v2 : Value) (w6 : World), w4.grownBy w6 (some b) → w6.ownsRow w4.heap.size TM 2 v2 ((ps.getD Y pq0).2.length + 1) (mcells (ps.getD Y pq0).2 ++ mcells [(2, 0)]) →
                  ∃ ps' : List PQ, PartsIn (w6.setCell ⟨g, Y, none⟩ v2) w.heap.size (.slice (some ⟨g, 0, none⟩) ps'.length cap) ps' ∧ ps'.length = ps.length ∧ tot ps' = tot ps + 1) :=
                fun v2 w6 hg6 ho6 => part_not hbw Hps4.out (by omega) (I64_small (by omega) (by omega)) hG4.size hg6 ho6
              generalize ps.getD Y pq0 = q at *
              obtain ⟨qv, mq⟩ := q
              dsimp only at hcell hpos hi64 hownq hle hpart
              have Hownq := Lib.hid hownq; clear hownq
              have hG4s := hG4.size
              clear hi64
              go_wp2_with (first
                | (at_builtin; refine wpList_append_own _ rfl (.tmp 64) (.tmp 68) 31 rfl w4.heap.size TM im (.agg #[.int .i64 0, .int .i64 0]) 2 16 Try.underlying31 Mi.out Mz0.out Mz1.out Mz2.out rfl (by decide) (.slice (some ⟨w4.heap.size, 0, none⟩) 0 0) 0 [] rfl (World.ownsRow_made w4 #[] 0 (Nat.le_refl _) (by unfold maxLen; omega) rfl) ⟨gq, 0, none⟩ mq.length cq (mcells mq) rfl (mcells_length _) ((Hownq.out.alloc _).cells (g := gq) rfl) (mcells_one _) (by unfold maxLen; omega) (by omega) (by simp) ?_; intro v1 w5 hown1 hgr1 _; simp only [Nat.zero_add, List.nil_append] at hown1; have hsz5 : w4.heap.size ≤ w5.heap.size := Nat.le_trans (by simp) hgr1.size; have Hgr1 := Lib.hid hgr1; clear hgr1)
                | (at_builtin; refine wpList_append_own _ rfl (.tmp 69) (.tmp 71) 31 rfl w4.heap.size TM im (.agg #[.int .i64 0, .int .i64 0]) 2 16 Try.underlying31 Mi.out Mz0.out Mz1.out Mz2.out rfl (by decide) v1 mq.length (mcells mq) rfl (hown1.alloc _) ⟨w5.heap.size, 0, none⟩ 1 1 (mcells [(2, 0)]) rfl rfl (news2 _ _ rfl _ _ _) (mcells_one _) (by unfold maxLen; omega) (by omega) (by simp; omega) ?_; intro v2 w6 hown2 hgr2 _
                   have hG6 : w4.grownBy w6 none := grown2 Hgr1.out hgr2 (fun k hk => by simp [Value.ownBlock] at hk; omega) (fun k hk => (hown1.lt k hk).1)
                   have hps6 := Hps4.out.row (grown_any hG6) hbw
                   have hgb := (hps6.1.lt g rfl).1
                   have Hr6 := Lib.hid ((hrk4.grown hG6 (by simp)).set (g := g) (y := Y) (u := v2) (by omega))
                   have HG6 := Lib.hid (grown_own (grownBy_trans hG4 (grown_any hG6)) (grownBy_setCell (w := w6) g Y v2) (fun k hk => by cases hk; exact hgb))
                   have hfz6 := hps6.1.frozenAt Y
                   obtain ⟨u6, hu6⟩ : ∃ u, w6.cell? ⟨g, Y, none⟩ = some u := ⟨_, by rw [hps6.1.cellAt _ (by omega)]; exact List.getElem?_eq_getElem (by simp; omega)⟩
                   have Hdone := Lib.hid (hpart.out v2 w6 (grown_any hG6) hown2)
                   obtain ⟨g2, cap2, rfl⟩ := ownsRow_form hown2 (by omega)
                   clear hps6 hG6 hown2 hgr2 hown1))
              clear Hps4 hpart Hownq Hgr1
              go_roundw
              case rel =>
                obtain ⟨ps', hp', hl', ht'⟩ := Hdone.out
                exact ⟨l, d + 2, ps', by go_num, by rw [← hl']; exact hp', by omega, by omega, Hr6.out.mono (by omega), by omega, HG6.out⟩
              case measure => simp [intOf, lenV]
            · have hzb : (z == 0) = false := by rw [beq_eq_false_iff_ne]; exact hz
              clear hz hz0 hz1
              have hgw : g < w4.heap.size := (hps4.1.lt g rfl).2
              have hgb : ¬ g = b := by have := (hps4.1.lt g rfl).1; omega
              obtain ⟨hcap1, hcap2⟩ := own_cap hps4.1
              obtain ⟨gq, cq, hcq, _, hpq, hiq, howq⟩ := parts_at hps4 (show Y < ps.length by omega)
              obtain ⟨gr, cr, hcr, _, hpr, hir, howr⟩ := parts_at hps4 (show Y + 1 < ps.length by omega)
              have hleq := tot_le (show Y < ps.length by omega)
              have hler := tot_le (show Y + 1 < ps.length by omega)
              have hG4s := hG4.size
              have hjoin : Hid (∀ (w8 w9 : World) (vb v9 : Value) (k n9 : Nat) (kd : Int) (xs9 : List Value), I64 kd → w4.grownBy w8 (some b) → w8.grownBy w9 none →
                  w8.ownsRow w4.heap.size TM 2 vb k (mcells (ps.getD Y pq0).2 ++ mcells (ps.getD (Y + 1) pq0).2 ++ mcells [(kd, 0)]) → k = (ps.getD Y pq0).2.length + (ps.getD (Y + 1) pq0).2.length + 1 →
                  w9.ownsRow w8.heap.size TS 1 v9 n9 xs9 → n9 = ps.length - 1 → xs9 = (ps.map (·.1)).take Y ++ [vb] ++ (ps.map (·.1)).drop (Y + 2) →
                  ∃ ps' : List PQ, PartsIn w9 w.heap.size v9 ps' ∧ ps'.length + 1 = ps.length ∧ tot ps' = tot ps + 1) :=
                fun w8 w9 vb v9 k n9 kd xs9 hk h8 h9 ho hkk hr hn hx => part_join hbw hps4 (by omega) hk hG4s h8 h9 ho hkk (hn ▸ hr) hx
              have Hps4 := Lib.hid hps4; clear hps4
              have HG4 := Lib.hid hG4; clear hG4
              generalize ps.getD Y pq0 = q at *
              generalize ps.getD (Y + 1) pq0 = r at *
              obtain ⟨qv, mq⟩ := q
              obtain ⟨rv, mr⟩ := r
              dsimp only at hcq hpq hiq howq hleq hcr hpr hir howr hler hjoin
              have Howq := Lib.hid howq; clear howq
              have Howr := Lib.hid howr; clear howr
              clear hiq hir
              have a1 : 0 + mq.length ≤ maxLen := by unfold maxLen; omega
              have a2 : (0 + mq.length) * 16 ≤ 140737488355328 := by omega
              have a3 : mq.length + mr.length ≤ maxLen := by unfold maxLen; omega
              have a4 : (mq.length + mr.length) * 16 ≤ 140737488355328 := by omega
              have a5 : mq.length + mr.length + 1 ≤ maxLen := by unfold maxLen; omega
              have a6 : (mq.length + mr.length + 1) * 16 ≤ 140737488355328 := by omega
              have c3 : c + d + 1 + 1 ≤ 1099511627776 := by omega
              have hbw4 : b < w4.heap.size := by omega
              go_wp2_with fail
              have b1 : Y < ps.length := by omega
              have b2 : (0 : Int) ≤ (Y : Int) := by omega
              have b3 : (Y : Int) < (ps.length : Int) := by omega
              have b4 : Y + 1 < ps.length := by omega
              have b5 : (0 : Int) ≤ (Y : Int) + 1 := by omega
              have b6 : (Y : Int) + 1 < (ps.length : Int) := by omega
              have b7 : ((Y : Int) + 1).toNat = Y + 1 := by omega
              have b8 : IntKind.i64.wrap ((Y : Int) + 1) = (Y : Int) + 1 := IntWalk.i64_in _ (by omega)
              go_region_held3 (fun w' => w'.cell? ⟨g, Y, none⟩ = some (.slice (some ⟨gq, 0, none⟩) mq.length cq) ∧ w'.cell? ⟨g, Y + 1, none⟩ = some (.slice (some ⟨gr, 0, none⟩) mr.length cr))
                (first | go_keep | exact ⟨by assumption, by assumption⟩)
                (first
                  | (refine step_append_lies _ (by rfl) (.tmp 74) (.tmp 78) _ (by rfl) w4.heap.size TM im (.agg #[.int .i64 0, .int .i64 0]) 2 16 Try.underlying31 Mi.out Mz0.out Mz1.out Mz2.out rfl (by omega) (.slice (some ⟨w4.heap.size, 0, none⟩) 0 0) 0 [] (by rfl) ?_ ⟨gq, 0, none⟩ mq.length cq (mcells mq) (by rfl) (mcells_length _) ?_ (mcells_one _) hpq a1 a2 ?_ (w4.heap.size + 1) ?_ ?_
                     go_must (exact World.ownsRow_made w4 #[] 0 (Nat.le_refl _) (Nat.zero_le _) rfl)
                     go_must (exact (Howq.out.alloc _).cells (g := gq) rfl)
                     go_must (simp)
                     go_must (first | rfl | simp)
                     go_must (intro g1 cap1 w5 hown1 hgr1 hat1 hlt1
                              simp only [Nat.zero_add, List.nil_append] at hown1 ⊢
                              have hG5 : w4.grownBy w5 none := grown_own (only_alloc (World.grownBy.refl _ _) _) (by first | exact hgr1 | exact grownBy_drew0 hgr1 | exact grownBy_drewX hgr1) (fun k hk => by simp [Value.ownBlock] at hk; omega)
                              have k51 := (hG5.cell_far ⟨g, Y, none⟩ hgw (by simp)).trans hcq
                              have k52 := (hG5.cell_far ⟨g, Y + 1, none⟩ hgw (by simp)).trans hcr
                              have hs5 := hG5.size
                              have hg1w : w4.heap.size ≤ g1 := (hown1.lt g1 rfl).1
                              have Hown1 := Lib.hid hown1
                              have Howr5 := Lib.hid (own_row Howr.out (grown_any hG5) hbw)
                              have HG5 := Lib.hid hG5
                              clear hown1 hgr1 hat1 hG5))
                  | (refine step_append_lies _ (by rfl) (.tmp 79) (.tmp 84) _ (by rfl) w4.heap.size TM im (.agg #[.int .i64 0, .int .i64 0]) 2 16 Try.underlying31 Mi.out Mz0.out Mz1.out Mz2.out rfl (by omega) (.slice (some ⟨g1, 0, none⟩) mq.length cap1) mq.length (mcells mq) (by rfl) ?_ ⟨gr, 0, none⟩ mr.length cr (mcells mr) (by rfl) (mcells_length _) ?_ (mcells_one _) hpr a3 a4 ?_ w5.heap.size ?_ ?_
                     go_must (exact Hown1.out)
                     go_must (exact Howr5.out.cells (g := gr) rfl)
                     go_must (first | assumption | omega | (simp; omega))
                     go_must (first | rfl | simp)
                     go_must (intro g2 cap2 w6 hown2 hgr2 hat2 hlt2
                              have hG6 : w4.grownBy w6 none := grown_own HG5.out (by first | exact hgr2 | exact grownBy_drew0 hgr2 | exact grownBy_drewX hgr2) (fun k hk => by simp [Value.ownBlock] at hk; omega)
                              have k61 := (hG6.cell_far ⟨g, Y, none⟩ hgw (by simp)).trans hcq
                              have k62 := (hG6.cell_far ⟨g, Y + 1, none⟩ hgw (by simp)).trans hcr
                              have hs6 := hG6.size
                              have hg2w : w4.heap.size ≤ g2 := (hown2.lt g2 rfl).1
                              have Hown2 := Lib.hid hown2
                              have Hrd6 := Lib.hid (hrk4.grown hG6 (by simp))
                              have HG6 := Lib.hid hG6
                              clear hown2 hgr2 hat2 hG6))
                  | (go_at_call 36
                     go_must (refine (pick _ b (c + d + 1 + 1) _ (by exact Hrd6.out) (by omega) (by omega) c3).mono ?_
                              rintro e w7 ⟨z3, z30, z31, rfl, hrk7, hg7⟩)
                     go_must (have hG7 : w4.grownBy w7 (some b) := grownBy_trans (grown_any HG6.out) (by first | exact hg7 | exact grownBy_drew0 hg7 | exact grownBy_drewX hg7)
                              have k71 := (hG7.cell_far ⟨g, Y, none⟩ hgw (by simp [hgb])).trans hcq
                              have k72 := (hG7.cell_far ⟨g, Y + 1, none⟩ hgw (by simp [hgb])).trans hcr
                              have hs7 := hG7.size
                              have Hown7 := Lib.hid (own_row Hown2.out (by first | exact hg7 | exact grownBy_drew0 hg7 | exact grownBy_drewX hg7) hbw4)
                              have HG7 := Lib.hid hG7
                              have Hrk7 := Lib.hid hrk7
                              have hz3 : IntKind.i64.wrap (3 + z3) = 3 + z3 := IntWalk.i64_in _ (by omega)
                              clear hrk7 hg7 hG7))
                  | (refine step_append_lies _ (by rfl) (.tmp 85) (.tmp 90) _ (by rfl) w4.heap.size TM im (.agg #[.int .i64 0, .int .i64 0]) 2 16 Try.underlying31 Mi.out Mz0.out Mz1.out Mz2.out rfl (by omega) (.slice (some ⟨g2, 0, none⟩) (mq.length + mr.length) cap2) (mq.length + mr.length) (mcells mq ++ mcells mr) (by rfl) ?_ ⟨w7.heap.size, 0, none⟩ 1 1 (mcells [(3 + z3, 0)]) (by rfl) rfl ?_ (mcells_one _) (by omega) a5 a6 ?_ (w7.heap.size + 1) ?_ ?_
                     go_must (exact Hown7.out.alloc _)
                     go_must (exact news2 w7 _ rfl _ _ _)
                     go_must (first | assumption | omega | (simp; omega))
                     go_must (first | rfl | simp)
                     go_must (intro g8 cap8 w8 hown8 hgr8 hat8 hlt8
                              have hG8 : w4.grownBy w8 (some b) := grown_own (only_alloc HG7.out _) (by first | exact hgr8 | exact grownBy_drew0 hgr8 | exact grownBy_drewX hgr8) (fun k hk => by simp [Value.ownBlock] at hk; omega)
                              have k81 := (hG8.cell_far ⟨g, Y, none⟩ hgw (by simp [hgb])).trans hcq
                              have k82 := (hG8.cell_far ⟨g, Y + 1, none⟩ hgw (by simp [hgb])).trans hcr
                              have Hown8 := Lib.hid hown8
                              have Hrd8 := Lib.hid ((Hrk7.out.alloc _).grown (by first | exact hgr8 | exact grownBy_drew0 hgr8 | exact grownBy_drewX hgr8) (fun k hk => by simp [Value.ownBlock] at hk; omega))
                              have HG8 := Lib.hid hG8
                              have hs8 := hG8.size
                              clear hown8 hgr8 hat8 hG8))
                  | fail)
              clear b5 b6 b7 b8 a1 a2 a3 a4 a5 a6 k81 k82
              have hps8 := Hps4.out.row HG8.out hbw
              have ht8 := parts_take hps8 Y
              have hd8 := parts_drop hps8 (Y + 2)
              have ho8 := parts_one hps8
              have hg8w : g < w8.heap.size := by omega
              have hle2 : (Y : Int) + 2 ≤ (ps.length : Int) := by omega
              have hY2 : Y + 2 ≤ ps.length := by omega
              have e1 : ((ps.map (·.1)).take Y).length = Y := by simp; omega
              have e2 : ((ps.map (·.1)).drop (Y + 2)).length = ps.length - (Y + 2) := by simp
              have E1 := Lib.hid e1; clear e1
              have E2 := Lib.hid e2; clear e2
              have Hps8 := Lib.hid hps8; clear hps8
              have Ht8 := Lib.hid ht8; clear ht8
              have Hd8 := Lib.hid hd8; clear hd8
              have Ho8 := Lib.hid ho8; clear ho8
              have hcl : (Y : Int) ≤ (cap : Int) := by omega
              have hcm : (cap : Int) ≤ 9223372036854775807 := by unfold maxLen at hcap2; omega
              by_cases hcap : cap = Y + 2
              · go_wp2_with (first
                  | (at_builtin
                     refine wpList_append_own _ rfl (.tmp 92) (.tmp 95) 23 rfl w8.heap.size TS i1 (.slice none 0 0) 1 24 Try.underlying23 Hi.out Hz0.out Hz1.out Hz2.out rfl (by decide) (.slice (some ⟨w8.heap.size, 0, none⟩) 0 0) 0 [] rfl (World.ownsRow_made w8 #[] 0 (Nat.le_refl _) (Nat.zero_le _) rfl) ⟨g, 0, none⟩ Y (Y + 2) ((ps.map (·.1)).take Y) rfl ?_ (cells_alloc Ht8.out hg8w _) (fun u hu => Ho8.out u (List.mem_of_mem_take hu)) (by unfold maxLen; omega) (by omega) (by simp) ?_
                     go_must (rw [E1.out, Nat.mul_one])
                     go_must (intro v16 w16 hown16 hgr16 _
                              simp only [Nat.zero_add, List.nil_append] at hown16
                              have hG16 : w8.grownBy w16 none := grown_own (only_alloc (World.grownBy.refl _ _) _) hgr16 (fun k hk => by simp [Value.ownBlock] at hk; omega)
                              have hs16 := hG16.size
                              have HG16 := Lib.hid hG16
                              have Hown16 := Lib.hid hown16
                              clear hG16 hgr16 hown16))
                  | (at_builtin
                     refine wpList_append_own _ rfl (.tmp 97) (.tmp 99) 23 rfl w8.heap.size TS i1 (.slice none 0 0) 1 24 Try.underlying23 Hi.out Hz0.out Hz1.out Hz2.out rfl (by decide) v16 Y ((ps.map (·.1)).take Y) rfl (Hown16.out.alloc _) ⟨w16.heap.size, 0, none⟩ 1 1 [.slice (some ⟨g8, 0, none⟩) (mq.length + mr.length + 1) cap8] rfl rfl (news1 _ _ rfl _ _) (by simp [Value.oneCell']) (by unfold maxLen; omega) (by omega) (by simp; omega) ?_
                     go_must (intro v17 w17 hown17 hgr17 _
                              have hG17 : w8.grownBy w17 none := grown_own (only_alloc HG16.out _) hgr17 (fun k hk => (Hown16.out.lt k hk).1)
                              have hs17 := hG17.size
                              have hc18 := cells_grown Hd8.out hg8w hG17
                              have Hc18 := Lib.hid hc18
                              have HG17 := Lib.hid hG17
                              have Hown17 := Lib.hid hown17
                              clear hc18 hG17 hgr17 hown17))
                  | (at_builtin
                     refine wpList_append_own _ rfl (.tmp 101) (.tmp 105) 23 rfl w8.heap.size TS i1 (.slice none 0 0) 1 24 Try.underlying23 Hi.out Hz0.out Hz1.out Hz2.out rfl (by decide) v17 (Y + 1) ((ps.map (·.1)).take Y ++ [.slice (some ⟨g8, 0, none⟩) (mq.length + mr.length + 1) cap8]) rfl Hown17.out ⟨g, 0, none⟩ (ps.length - (Y + 2)) _ ((ps.map (·.1)).drop (Y + 2)) rfl ?_ ?_ (fun u hu => Ho8.out u (List.mem_of_mem_drop hu)) (by unfold maxLen; omega) (by omega) (by omega) ?_
                     go_must (rw [E2.out, Nat.mul_one])
                     go_must (exact drop_none E2.out (by omega))
                     go_must (intro v18 w18 hown18 hgr18 _
                              have hG18 : w8.grownBy w18 none := grown_own HG17.out hgr18 (fun k hk => (Hown17.out.lt k hk).1)
                              obtain ⟨g18, cap18, rfl⟩ := ownsRow_form hown18 (by omega)
                              have Hdone := Lib.hid (hjoin.out w8 w18 _ _ _ _ _ _ (I64_small (by omega) (by omega)) HG8.out hG18 Hown8.out rfl hown18 (by omega) rfl)
                              have Hr18 := Lib.hid (Hrd8.out.grown hG18 (by simp))
                              have HG18 := Lib.hid (grownBy_trans HG4.out (grownBy_trans HG8.out (grown_any hG18)))
                              clear hG18 hgr18 hown18))
                  | fail)
                go_roundw
                case rel =>
                  obtain ⟨ps', hp', hl', ht'⟩ := Hdone.out
                  exact ⟨l + 1, d + 3, ps', by go_num, hp', by omega, by omega, Hr18.out.mono (by omega), by omega, HG18.out⟩
                case measure => simp [intOf, lenV]; omega
              · go_wp2_with (first
                  | (at_builtin
                     refine wpList_append_own _ rfl (.tmp 92) (.tmp 95) 23 rfl w8.heap.size TS i1 (.slice none 0 0) 1 24 Try.underlying23 Hi.out Hz0.out Hz1.out Hz2.out rfl (by decide) (.slice (some ⟨w8.heap.size, 0, none⟩) 0 0) 0 [] rfl (World.ownsRow_made w8 #[] 0 (Nat.le_refl _) (Nat.zero_le _) rfl) ⟨g, 0, none⟩ Y cap ((ps.map (·.1)).take Y) rfl ?_ (cells_alloc Ht8.out hg8w _) (fun u hu => Ho8.out u (List.mem_of_mem_take hu)) (by unfold maxLen; omega) (by omega) (by simp) ?_
                     go_must (rw [E1.out, Nat.mul_one])
                     go_must (intro v16 w16 hown16 hgr16 _
                              simp only [Nat.zero_add, List.nil_append] at hown16
                              have hG16 : w8.grownBy w16 none := grown_own (only_alloc (World.grownBy.refl _ _) _) hgr16 (fun k hk => by simp [Value.ownBlock] at hk; omega)
                              have hs16 := hG16.size
                              have HG16 := Lib.hid hG16
                              have Hown16 := Lib.hid hown16
                              clear hG16 hgr16 hown16))
                  | (at_builtin
                     refine wpList_append_own _ rfl (.tmp 97) (.tmp 99) 23 rfl w8.heap.size TS i1 (.slice none 0 0) 1 24 Try.underlying23 Hi.out Hz0.out Hz1.out Hz2.out rfl (by decide) v16 Y ((ps.map (·.1)).take Y) rfl (Hown16.out.alloc _) ⟨w16.heap.size, 0, none⟩ 1 1 [.slice (some ⟨g8, 0, none⟩) (mq.length + mr.length + 1) cap8] rfl rfl (news1 _ _ rfl _ _) (by simp [Value.oneCell']) (by unfold maxLen; omega) (by omega) (by simp; omega) ?_
                     go_must (intro v17 w17 hown17 hgr17 _
                              have hG17 : w8.grownBy w17 none := grown_own (only_alloc HG16.out _) hgr17 (fun k hk => (Hown16.out.lt k hk).1)
                              have hs17 := hG17.size
                              have hc18 := cells_grown Hd8.out hg8w hG17
                              have Hc18 := Lib.hid hc18
                              have HG17 := Lib.hid hG17
                              have Hown17 := Lib.hid hown17
                              clear hc18 hG17 hgr17 hown17))
                  | (at_builtin
                     refine wpList_append_own _ rfl (.tmp 101) (.tmp 105) 23 rfl w8.heap.size TS i1 (.slice none 0 0) 1 24 Try.underlying23 Hi.out Hz0.out Hz1.out Hz2.out rfl (by decide) v17 (Y + 1) ((ps.map (·.1)).take Y ++ [.slice (some ⟨g8, 0, none⟩) (mq.length + mr.length + 1) cap8]) rfl Hown17.out ⟨g, Y + 2, none⟩ (ps.length - (Y + 2)) _ ((ps.map (·.1)).drop (Y + 2)) rfl ?_ ?_ (fun u hu => Ho8.out u (List.mem_of_mem_drop hu)) (by unfold maxLen; omega) (by omega) (by omega) ?_
                     go_must (rw [E2.out, Nat.mul_one])
                     go_must (exact Hc18.out)
                     go_must (intro v18 w18 hown18 hgr18 _
                              have hG18 : w8.grownBy w18 none := grown_own HG17.out hgr18 (fun k hk => (Hown17.out.lt k hk).1)
                              obtain ⟨g18, cap18, rfl⟩ := ownsRow_form hown18 (by omega)
                              have Hdone := Lib.hid (hjoin.out w8 w18 _ _ _ _ _ _ (I64_small (by omega) (by omega)) HG8.out hG18 Hown8.out rfl hown18 (by omega) rfl)
                              have Hr18 := Lib.hid (Hrd8.out.grown hG18 (by simp))
                              have HG18 := Lib.hid (grownBy_trans HG4.out (grownBy_trans HG8.out (grown_any hG18)))
                              clear hG18 hgr18 hown18))
                  | fail)
                go_roundw
                case rel =>
                  obtain ⟨ps', hp', hl', ht'⟩ := Hdone.out
                  exact ⟨l + 1, d + 3, ps', by go_num, hp', by omega, by omega, Hr18.out.mono (by omega), by omega, HG18.out⟩
                case measure => simp [intOf, lenV]; omega
          · obtain rfl : l = 0 := by omega
            rw [show ((0 : Nat) : Int) = 0 from rfl]
            obtain ⟨w4, rfl⟩ : ∃ w4 : World, w4 = w3 := ⟨_, rfl⟩
            have hps4 := hps3; clear hps3
            have hrk4 := hrk3.mono (show c + d + 1 ≤ c + d + 1 + 1 by omega); clear hrk3
            have hG4 := hG3; clear hG3
            have hgw : g < w4.heap.size := (hps4.1.lt g rfl).2
            have hgb : ¬ g = b := by have := (hps4.1.lt g rfl).1; omega
            obtain ⟨hcap1, hcap2⟩ := own_cap hps4.1
            obtain ⟨gq, cq, hcq, _, hpq, hiq, howq⟩ := parts_at hps4 (show Y < ps.length by omega)
            obtain ⟨gr, cr, hcr, _, hpr, hir, howr⟩ := parts_at hps4 (show Y + 1 < ps.length by omega)
            have hleq := tot_le (show Y < ps.length by omega)
            have hler := tot_le (show Y + 1 < ps.length by omega)
            have hG4s := hG4.size
            have hjoin : Hid (∀ (w8 w9 : World) (vb v9 : Value) (k n9 : Nat) (kd : Int) (xs9 : List Value), I64 kd → w4.grownBy w8 (some b) → w8.grownBy w9 none →
                w8.ownsRow w4.heap.size TM 2 vb k (mcells (ps.getD Y pq0).2 ++ mcells (ps.getD (Y + 1) pq0).2 ++ mcells [(kd, 0)]) → k = (ps.getD Y pq0).2.length + (ps.getD (Y + 1) pq0).2.length + 1 →
                w9.ownsRow w8.heap.size TS 1 v9 n9 xs9 → n9 = ps.length - 1 → xs9 = (ps.map (·.1)).take Y ++ [vb] ++ (ps.map (·.1)).drop (Y + 2) →
                ∃ ps' : List PQ, PartsIn w9 w.heap.size v9 ps' ∧ ps'.length + 1 = ps.length ∧ tot ps' = tot ps + 1) :=
              fun w8 w9 vb v9 k n9 kd xs9 hk h8 h9 ho hkk hr hn hx => part_join hbw hps4 (by omega) hk hG4s h8 h9 ho hkk (hn ▸ hr) hx
            have Hps4 := Lib.hid hps4; clear hps4
            have HG4 := Lib.hid hG4; clear hG4
            generalize ps.getD Y pq0 = q at *
            generalize ps.getD (Y + 1) pq0 = r at *
            obtain ⟨qv, mq⟩ := q
            obtain ⟨rv, mr⟩ := r
            dsimp only at hcq hpq hiq howq hleq hcr hpr hir howr hler hjoin
            have Howq := Lib.hid howq; clear howq
            have Howr := Lib.hid howr; clear howr
            clear hiq hir
            have a1 : 0 + mq.length ≤ maxLen := by unfold maxLen; omega
            have a2 : (0 + mq.length) * 16 ≤ 140737488355328 := by omega
            have a3 : mq.length + mr.length ≤ maxLen := by unfold maxLen; omega
            have a4 : (mq.length + mr.length) * 16 ≤ 140737488355328 := by omega
            have a5 : mq.length + mr.length + 1 ≤ maxLen := by unfold maxLen; omega
            have a6 : (mq.length + mr.length + 1) * 16 ≤ 140737488355328 := by omega
            have c3 : c + d + 1 + 1 ≤ 1099511627776 := by omega
            have hbw4 : b < w4.heap.size := by omega
            go_wp2_with fail
            have b1 : Y < ps.length := by omega
            have b2 : (0 : Int) ≤ (Y : Int) := by omega
            have b3 : (Y : Int) < (ps.length : Int) := by omega
            have b4 : Y + 1 < ps.length := by omega
            have b5 : (0 : Int) ≤ (Y : Int) + 1 := by omega
            have b6 : (Y : Int) + 1 < (ps.length : Int) := by omega
            have b7 : ((Y : Int) + 1).toNat = Y + 1 := by omega
            have b8 : IntKind.i64.wrap ((Y : Int) + 1) = (Y : Int) + 1 := IntWalk.i64_in _ (by omega)
            go_region_held3 (fun w' => w'.cell? ⟨g, Y, none⟩ = some (.slice (some ⟨gq, 0, none⟩) mq.length cq) ∧ w'.cell? ⟨g, Y + 1, none⟩ = some (.slice (some ⟨gr, 0, none⟩) mr.length cr))
              (first | go_keep | exact ⟨by assumption, by assumption⟩)
              (first
                | (refine step_append_lies _ (by rfl) (.tmp 74) (.tmp 78) _ (by rfl) w4.heap.size TM im (.agg #[.int .i64 0, .int .i64 0]) 2 16 Try.underlying31 Mi.out Mz0.out Mz1.out Mz2.out rfl (by omega) (.slice (some ⟨w4.heap.size, 0, none⟩) 0 0) 0 [] (by rfl) ?_ ⟨gq, 0, none⟩ mq.length cq (mcells mq) (by rfl) (mcells_length _) ?_ (mcells_one _) hpq a1 a2 ?_ (w4.heap.size + 1) ?_ ?_
                   go_must (exact World.ownsRow_made w4 #[] 0 (Nat.le_refl _) (Nat.zero_le _) rfl)
                   go_must (exact (Howq.out.alloc _).cells (g := gq) rfl)
                   go_must (simp)
                   go_must (first | rfl | simp)
                   go_must (intro g1 cap1 w5 hown1 hgr1 hat1 hlt1
                            simp only [Nat.zero_add, List.nil_append] at hown1 ⊢
                            have hG5 : w4.grownBy w5 none := grown_own (only_alloc (World.grownBy.refl _ _) _) (by first | exact hgr1 | exact grownBy_drew0 hgr1 | exact grownBy_drewX hgr1) (fun k hk => by simp [Value.ownBlock] at hk; omega)
                            have k51 := (hG5.cell_far ⟨g, Y, none⟩ hgw (by simp)).trans hcq
                            have k52 := (hG5.cell_far ⟨g, Y + 1, none⟩ hgw (by simp)).trans hcr
                            have hs5 := hG5.size
                            have hg1w : w4.heap.size ≤ g1 := (hown1.lt g1 rfl).1
                            have Hown1 := Lib.hid hown1
                            have Howr5 := Lib.hid (own_row Howr.out (grown_any hG5) hbw)
                            have HG5 := Lib.hid hG5
                            clear hown1 hgr1 hat1 hG5))
                | (refine step_append_lies _ (by rfl) (.tmp 79) (.tmp 84) _ (by rfl) w4.heap.size TM im (.agg #[.int .i64 0, .int .i64 0]) 2 16 Try.underlying31 Mi.out Mz0.out Mz1.out Mz2.out rfl (by omega) (.slice (some ⟨g1, 0, none⟩) mq.length cap1) mq.length (mcells mq) (by rfl) ?_ ⟨gr, 0, none⟩ mr.length cr (mcells mr) (by rfl) (mcells_length _) ?_ (mcells_one _) hpr a3 a4 ?_ w5.heap.size ?_ ?_
                   go_must (exact Hown1.out)
                   go_must (exact Howr5.out.cells (g := gr) rfl)
                   go_must (first | assumption | omega | (simp; omega))
                   go_must (first | rfl | simp)
                   go_must (intro g2 cap2 w6 hown2 hgr2 hat2 hlt2
                            have hG6 : w4.grownBy w6 none := grown_own HG5.out (by first | exact hgr2 | exact grownBy_drew0 hgr2 | exact grownBy_drewX hgr2) (fun k hk => by simp [Value.ownBlock] at hk; omega)
                            have k61 := (hG6.cell_far ⟨g, Y, none⟩ hgw (by simp)).trans hcq
                            have k62 := (hG6.cell_far ⟨g, Y + 1, none⟩ hgw (by simp)).trans hcr
                            have hs6 := hG6.size
                            have hg2w : w4.heap.size ≤ g2 := (hown2.lt g2 rfl).1
                            have Hown2 := Lib.hid hown2
                            have Hrd6 := Lib.hid (hrk4.grown hG6 (by simp))
                            have HG6 := Lib.hid hG6
                            clear hown2 hgr2 hat2 hG6))
                | (go_at_call 36
                   go_must (refine (pick _ b (c + d + 1 + 1) _ (by exact Hrd6.out) (by omega) (by omega) c3).mono ?_
                            rintro e w7 ⟨z3, z30, z31, rfl, hrk7, hg7⟩)
                   go_must (have hG7 : w4.grownBy w7 (some b) := grownBy_trans (grown_any HG6.out) (by first | exact hg7 | exact grownBy_drew0 hg7 | exact grownBy_drewX hg7)
                            have k71 := (hG7.cell_far ⟨g, Y, none⟩ hgw (by simp [hgb])).trans hcq
                            have k72 := (hG7.cell_far ⟨g, Y + 1, none⟩ hgw (by simp [hgb])).trans hcr
                            have hs7 := hG7.size
                            have Hown7 := Lib.hid (own_row Hown2.out (by first | exact hg7 | exact grownBy_drew0 hg7 | exact grownBy_drewX hg7) hbw4)
                            have HG7 := Lib.hid hG7
                            have Hrk7 := Lib.hid hrk7
                            have hz3 : IntKind.i64.wrap (3 + z3) = 3 + z3 := IntWalk.i64_in _ (by omega)
                            clear hrk7 hg7 hG7))
                | (refine step_append_lies _ (by rfl) (.tmp 85) (.tmp 90) _ (by rfl) w4.heap.size TM im (.agg #[.int .i64 0, .int .i64 0]) 2 16 Try.underlying31 Mi.out Mz0.out Mz1.out Mz2.out rfl (by omega) (.slice (some ⟨g2, 0, none⟩) (mq.length + mr.length) cap2) (mq.length + mr.length) (mcells mq ++ mcells mr) (by rfl) ?_ ⟨w7.heap.size, 0, none⟩ 1 1 (mcells [(3 + z3, 0)]) (by rfl) rfl ?_ (mcells_one _) (by omega) a5 a6 ?_ (w7.heap.size + 1) ?_ ?_
                   go_must (exact Hown7.out.alloc _)
                   go_must (exact news2 w7 _ rfl _ _ _)
                   go_must (first | assumption | omega | (simp; omega))
                   go_must (first | rfl | simp)
                   go_must (intro g8 cap8 w8 hown8 hgr8 hat8 hlt8
                            have hG8 : w4.grownBy w8 (some b) := grown_own (only_alloc HG7.out _) (by first | exact hgr8 | exact grownBy_drew0 hgr8 | exact grownBy_drewX hgr8) (fun k hk => by simp [Value.ownBlock] at hk; omega)
                            have k81 := (hG8.cell_far ⟨g, Y, none⟩ hgw (by simp [hgb])).trans hcq
                            have k82 := (hG8.cell_far ⟨g, Y + 1, none⟩ hgw (by simp [hgb])).trans hcr
                            have Hown8 := Lib.hid hown8
                            have Hrd8 := Lib.hid ((Hrk7.out.alloc _).grown (by first | exact hgr8 | exact grownBy_drew0 hgr8 | exact grownBy_drewX hgr8) (fun k hk => by simp [Value.ownBlock] at hk; omega))
                            have HG8 := Lib.hid hG8
                            have hs8 := hG8.size
                            clear hown8 hgr8 hat8 hG8))
                | fail)
            clear b5 b6 b7 b8 a1 a2 a3 a4 a5 a6 k81 k82
            have hps8 := Hps4.out.row HG8.out hbw
            have ht8 := parts_take hps8 Y
            have hd8 := parts_drop hps8 (Y + 2)
            have ho8 := parts_one hps8
            have hg8w : g < w8.heap.size := by omega
            have hle2 : (Y : Int) + 2 ≤ (ps.length : Int) := by omega
            have hY2 : Y + 2 ≤ ps.length := by omega
            have e1 : ((ps.map (·.1)).take Y).length = Y := by simp; omega
            have e2 : ((ps.map (·.1)).drop (Y + 2)).length = ps.length - (Y + 2) := by simp
            have E1 := Lib.hid e1; clear e1
            have E2 := Lib.hid e2; clear e2
            have Hps8 := Lib.hid hps8; clear hps8
            have Ht8 := Lib.hid ht8; clear ht8
            have Hd8 := Lib.hid hd8; clear hd8
            have Ho8 := Lib.hid ho8; clear ho8
            have hcl : (Y : Int) ≤ (cap : Int) := by omega
            have hcm : (cap : Int) ≤ 9223372036854775807 := by unfold maxLen at hcap2; omega
            by_cases hcap : cap = Y + 2
            · go_wp2_with (first
                | (at_builtin
                   refine wpList_append_own _ rfl (.tmp 92) (.tmp 95) 23 rfl w8.heap.size TS i1 (.slice none 0 0) 1 24 Try.underlying23 Hi.out Hz0.out Hz1.out Hz2.out rfl (by decide) (.slice (some ⟨w8.heap.size, 0, none⟩) 0 0) 0 [] rfl (World.ownsRow_made w8 #[] 0 (Nat.le_refl _) (Nat.zero_le _) rfl) ⟨g, 0, none⟩ Y (Y + 2) ((ps.map (·.1)).take Y) rfl ?_ (cells_alloc Ht8.out hg8w _) (fun u hu => Ho8.out u (List.mem_of_mem_take hu)) (by unfold maxLen; omega) (by omega) (by simp) ?_
                   go_must (rw [E1.out, Nat.mul_one])
                   go_must (intro v16 w16 hown16 hgr16 _
                            simp only [Nat.zero_add, List.nil_append] at hown16
                            have hG16 : w8.grownBy w16 none := grown_own (only_alloc (World.grownBy.refl _ _) _) hgr16 (fun k hk => by simp [Value.ownBlock] at hk; omega)
                            have hs16 := hG16.size
                            have HG16 := Lib.hid hG16
                            have Hown16 := Lib.hid hown16
                            clear hG16 hgr16 hown16))
                | (at_builtin
                   refine wpList_append_own _ rfl (.tmp 97) (.tmp 99) 23 rfl w8.heap.size TS i1 (.slice none 0 0) 1 24 Try.underlying23 Hi.out Hz0.out Hz1.out Hz2.out rfl (by decide) v16 Y ((ps.map (·.1)).take Y) rfl (Hown16.out.alloc _) ⟨w16.heap.size, 0, none⟩ 1 1 [.slice (some ⟨g8, 0, none⟩) (mq.length + mr.length + 1) cap8] rfl rfl (news1 _ _ rfl _ _) (by simp [Value.oneCell']) (by unfold maxLen; omega) (by omega) (by simp; omega) ?_
                   go_must (intro v17 w17 hown17 hgr17 _
                            have hG17 : w8.grownBy w17 none := grown_own (only_alloc HG16.out _) hgr17 (fun k hk => (Hown16.out.lt k hk).1)
                            have hs17 := hG17.size
                            have hc18 := cells_grown Hd8.out hg8w hG17
                            have Hc18 := Lib.hid hc18
                            have HG17 := Lib.hid hG17
                            have Hown17 := Lib.hid hown17
                            clear hc18 hG17 hgr17 hown17))
                | (at_builtin
                   refine wpList_append_own _ rfl (.tmp 101) (.tmp 105) 23 rfl w8.heap.size TS i1 (.slice none 0 0) 1 24 Try.underlying23 Hi.out Hz0.out Hz1.out Hz2.out rfl (by decide) v17 (Y + 1) ((ps.map (·.1)).take Y ++ [.slice (some ⟨g8, 0, none⟩) (mq.length + mr.length + 1) cap8]) rfl Hown17.out ⟨g, 0, none⟩ (ps.length - (Y + 2)) _ ((ps.map (·.1)).drop (Y + 2)) rfl ?_ ?_ (fun u hu => Ho8.out u (List.mem_of_mem_drop hu)) (by unfold maxLen; omega) (by omega) (by omega) ?_
                   go_must (rw [E2.out, Nat.mul_one])
                   go_must (exact drop_none E2.out (by omega))
                   go_must (intro v18 w18 hown18 hgr18 _
                            have hG18 : w8.grownBy w18 none := grown_own HG17.out hgr18 (fun k hk => (Hown17.out.lt k hk).1)
                            obtain ⟨g18, cap18, rfl⟩ := ownsRow_form hown18 (by omega)
                            have Hdone := Lib.hid (hjoin.out w8 w18 _ _ _ _ _ _ (I64_small (by omega) (by omega)) HG8.out hG18 Hown8.out rfl hown18 (by omega) rfl)
                            have Hr18 := Lib.hid (Hrd8.out.grown hG18 (by simp))
                            have HG18 := Lib.hid (grownBy_trans HG4.out (grownBy_trans HG8.out (grown_any hG18)))
                            clear hG18 hgr18 hown18))
                | fail)
              go_roundw
              case rel =>
                obtain ⟨ps', hp', hl', ht'⟩ := Hdone.out
                exact ⟨0, d + 3, ps', rfl, hp', by omega, by omega, Hr18.out.mono (by omega), by omega, HG18.out⟩
              case measure => simp [intOf, lenV]; omega
            · go_wp2_with (first
                | (at_builtin
                   refine wpList_append_own _ rfl (.tmp 92) (.tmp 95) 23 rfl w8.heap.size TS i1 (.slice none 0 0) 1 24 Try.underlying23 Hi.out Hz0.out Hz1.out Hz2.out rfl (by decide) (.slice (some ⟨w8.heap.size, 0, none⟩) 0 0) 0 [] rfl (World.ownsRow_made w8 #[] 0 (Nat.le_refl _) (Nat.zero_le _) rfl) ⟨g, 0, none⟩ Y cap ((ps.map (·.1)).take Y) rfl ?_ (cells_alloc Ht8.out hg8w _) (fun u hu => Ho8.out u (List.mem_of_mem_take hu)) (by unfold maxLen; omega) (by omega) (by simp) ?_
                   go_must (rw [E1.out, Nat.mul_one])
                   go_must (intro v16 w16 hown16 hgr16 _
                            simp only [Nat.zero_add, List.nil_append] at hown16
                            have hG16 : w8.grownBy w16 none := grown_own (only_alloc (World.grownBy.refl _ _) _) hgr16 (fun k hk => by simp [Value.ownBlock] at hk; omega)
                            have hs16 := hG16.size
                            have HG16 := Lib.hid hG16
                            have Hown16 := Lib.hid hown16
                            clear hG16 hgr16 hown16))
                | (at_builtin
                   refine wpList_append_own _ rfl (.tmp 97) (.tmp 99) 23 rfl w8.heap.size TS i1 (.slice none 0 0) 1 24 Try.underlying23 Hi.out Hz0.out Hz1.out Hz2.out rfl (by decide) v16 Y ((ps.map (·.1)).take Y) rfl (Hown16.out.alloc _) ⟨w16.heap.size, 0, none⟩ 1 1 [.slice (some ⟨g8, 0, none⟩) (mq.length + mr.length + 1) cap8] rfl rfl (news1 _ _ rfl _ _) (by simp [Value.oneCell']) (by unfold maxLen; omega) (by omega) (by simp; omega) ?_
                   go_must (intro v17 w17 hown17 hgr17 _
                            have hG17 : w8.grownBy w17 none := grown_own (only_alloc HG16.out _) hgr17 (fun k hk => (Hown16.out.lt k hk).1)
                            have hs17 := hG17.size
                            have hc18 := cells_grown Hd8.out hg8w hG17
                            have Hc18 := Lib.hid hc18
                            have HG17 := Lib.hid hG17
                            have Hown17 := Lib.hid hown17
                            clear hc18 hG17 hgr17 hown17))
                | (at_builtin
                   refine wpList_append_own _ rfl (.tmp 101) (.tmp 105) 23 rfl w8.heap.size TS i1 (.slice none 0 0) 1 24 Try.underlying23 Hi.out Hz0.out Hz1.out Hz2.out rfl (by decide) v17 (Y + 1) ((ps.map (·.1)).take Y ++ [.slice (some ⟨g8, 0, none⟩) (mq.length + mr.length + 1) cap8]) rfl Hown17.out ⟨g, Y + 2, none⟩ (ps.length - (Y + 2)) _ ((ps.map (·.1)).drop (Y + 2)) rfl ?_ ?_ (fun u hu => Ho8.out u (List.mem_of_mem_drop hu)) (by unfold maxLen; omega) (by omega) (by omega) ?_
                   go_must (rw [E2.out, Nat.mul_one])
                   go_must (exact Hc18.out)
                   go_must (intro v18 w18 hown18 hgr18 _
                            have hG18 : w8.grownBy w18 none := grown_own HG17.out hgr18 (fun k hk => (Hown17.out.lt k hk).1)
                            obtain ⟨g18, cap18, rfl⟩ := ownsRow_form hown18 (by omega)
                            have Hdone := Lib.hid (hjoin.out w8 w18 _ _ _ _ _ _ (I64_small (by omega) (by omega)) HG8.out hG18 Hown8.out rfl hown18 (by omega) rfl)
                            have Hr18 := Lib.hid (Hrd8.out.grown hG18 (by simp))
                            have HG18 := Lib.hid (grownBy_trans HG4.out (grownBy_trans HG8.out (grown_any hG18)))
                            clear hG18 hgr18 hown18))
                | fail)
              go_roundw
              case rel =>
                obtain ⟨ps', hp', hl', ht'⟩ := Hdone.out
                exact ⟨0, d + 3, ps', rfl, hp', by omega, by omega, Hr18.out.mono (by omega), by omega, HG18.out⟩
              case measure => simp [intOf, lenV]; omega
        · obtain hlen1' : ps.length = 1 := by omega
          have Hlen1 := Lib.hid hlen1'; clear hlen1'
          obtain ⟨gq, cq, hcell, _, hpos, hi64, hownq⟩ := parts_at hps (show 0 < ps.length by omega)
          have hle := tot_le (show 0 < ps.length by omega)
          have hgw : g < wr.heap.size := (hps.1.lt g rfl).2
          have hlen0 : (0 : Int) < (ps.length : Int) := by omega
          have hno : ¬ (1 : Int) < (ps.length : Int) := by omega
          generalize ps.getD 0 pq0 = q at *
          obtain ⟨qv, mq⟩ := q
          dsimp only at hcell hpos hi64 hownq hle
          have Howq := Lib.hid hownq; clear hownq
          have Hi64 := Lib.hid hi64; clear hi64
          have Hps := Lib.hid hps; clear hps
          go_wp2_with fail
          refine (pick _ _ _ _ hrk (by omega) (by omega) (by omega)).mono ?_
          rintro e w4 ⟨y, hy0, hy1, rfl, hrk4, hg4⟩
          have Hown4 := Lib.hid (own_row Howq.out hg4 hbw)
          have hG4 := grownBy_trans hGk hg4
          clear hrk hGk hg4 Howq
          have hG4s := hG4.size
          by_cases hy : y = 0
          · have hyb : (y == 0) = true := by rw [beq_iff_eq]; exact hy
            clear hy hy0 hy1
            go_wp2_with (first
              | (at_builtin
                 refine wpList_append_own _ rfl (.tmp 113) (.tmp 115) 31 rfl w.heap.size TM im (.agg #[.int .i64 0, .int .i64 0]) 2 16 Try.underlying31 Mi.out Mz0.out Mz1.out Mz2.out rfl (by decide) (.slice (some ⟨gq, 0, none⟩) mq.length cq) mq.length (mcells mq) rfl (Hown4.out.alloc _) ⟨w4.heap.size, 0, none⟩ 1 1 (mcells [(2, 0)]) rfl rfl (news2 _ _ rfl _ _ _) (mcells_one _) (by unfold maxLen; omega) (by omega) (by simp; omega) ?_
                 go_must (intro v5 w5 hown5 hgr5 _
                          have hgb : b < gq := Nat.lt_of_lt_of_le hbw (Hown4.out.lt gq rfl).1
                          have hG5 := grown_own (only_alloc hG4 (.cells #[.int .i64 2, .int .i64 0] TM)) hgr5 (fun k hk => (Hown4.out.lt k hk).1)
                          have hrd5 := (hrk4.alloc (.cells #[.int .i64 2, .int .i64 0] TM)).grown hgr5 (fun k hk => by have := (Hown4.out.lt k hk).1; omega)
                          have hown5' : w5.ownsRow w.heap.size TM 2 v5 (mq ++ [(2, (0 : Int))]).length (mcells (mq ++ [(2, 0)])) := by rw [mcells_append]; simpa using hown5
                          obtain ⟨gT, cT, rfl⟩ := ownsRow_form hown5 (by omega)
                          have Hi5 := Lib.hid (I64s_append Hi64.out (I64s_one (k := 2) (x := 0) (I64_small (by omega) (by omega)) (I64_small (by omega) (by omega))))
                          have Hl5 : Hid ((mq ++ [(2, (0 : Int))]).length = mq.length + 1) := by simp [Hid]
                          have Hown5 := Lib.hid hown5'
                          have HG5 := Lib.hid hG5
                          have Hrd5 := Lib.hid hrd5
                          clear hown5 hown5' hgr5 hG5 hrd5))
              | fail)
            have hl5 := Hl5.out
            generalize mq ++ [(2, (0 : Int))] = mT at *
            generalize hnT : mq.length + 1 = nT at *
            have hnl : nT ≤ 11 := by omega
            have hnp : 0 < nT := by omega
            clear hl5 hnT hle hpos
            refine (odd _ _ _ _ Hrd5.out hn (by omega)).mono ?_
            rintro e w6 ⟨x, rfl, hrd6, hg6⟩
            have Hown6 : Hid (w6.ownsRow w.heap.size TM 2 (.slice (some ⟨gT, 0, none⟩) nT cT) nT (mcells mT)) := by
              have h0 := own_row Hown5.out hg6 hbw
              first | exact h0 | (rw [Hl5.out] at h0; exact h0)
            have HG6 := Lib.hid (grownBy_trans HG5.out hg6)
            have Hrd6 := Lib.hid hrd6
            clear hg6 hrd6 Hown5 HG5 Hrd5
            cases x with
            | false =>
              go_wp2
              go_ret
              exact ⟨_, _, _, mT, rfl, Hl5.out, Hown6.out, Hi5.out, by omega, Hrd6.out.mono (by omega), HG6.out⟩
            | true =>
              go_wp2_with fail
              refine (pick _ _ _ _ Hrd6.out (by omega) (by omega) (by omega)).mono ?_
              rintro e w7 ⟨z, hz0, hz1, rfl, hrd7, hg7⟩
              have Hown7 := Lib.hid (own_row Hown6.out hg7 hbw)
              have HG7 := Lib.hid (grownBy_trans HG6.out hg7)
              have Hrd7 := Lib.hid hrd7
              have hs7 := HG7.out.size
              clear hg7 hrd7
              have hz : z = 0 ∨ z = 1 ∨ z = 2 := by omega
              clear hz0 hz1
              rcases hz with rfl | rfl | rfl
              · go_wp2
                go_ret
                exact ⟨_, _, _, [], rfl, rfl, World.ownsRow_made _ _ 0 hs7 (Nat.zero_le _) rfl, by intro m hm; simp at hm, by simp, (Hrd7.out.alloc _).mono (by omega), only_alloc HG7.out _⟩
              · go_wp2_with (first
                  | (at_builtin
                     refine wpList_append_own _ rfl (.tmp 132) (.tmp 134) 31 rfl w.heap.size TM im (.agg #[.int .i64 0, .int .i64 0]) 2 16 Try.underlying31 Mi.out Mz0.out Mz1.out Mz2.out rfl (by decide) (.slice (some ⟨gT, 0, none⟩) nT cT) nT (mcells mT) rfl (Hown7.out.alloc _) ⟨w7.heap.size, 0, none⟩ 1 1 (mcells [(5, 0)]) rfl rfl (news2 _ _ rfl _ _ _) (mcells_one _) (by unfold maxLen; omega) (by omega) (by simp; omega) ?_
                     go_must (intro v8 w8 hown8 hgr8 _
                              have hG8 := grown_own (only_alloc HG7.out (.cells #[.int .i64 5, .int .i64 0] TM)) hgr8 (fun k hk => (Hown7.out.lt k hk).1)
                              have hrd8 := (Hrd7.out.alloc (.cells #[.int .i64 5, .int .i64 0] TM)).grown hgr8 (fun k hk => by have := (Hown7.out.lt k hk).1; omega)
                              obtain ⟨g8, c8, rfl⟩ := ownsRow_form hown8 (by omega)
                              have Hown8 : Hid (w8.ownsRow w.heap.size TM 2 (.slice (some ⟨g8, 0, none⟩) (nT + 1) c8) (nT + 1) (mcells (mT ++ [(5, 0)]))) := by
                                unfold Hid
                                rw [mcells_append]; exact hown8
                              have HG8 := Lib.hid hG8
                              have Hrd8 := Lib.hid hrd8
                              clear hown8 hgr8 hG8 hrd8))
                  | fail)
                go_ret
                exact ⟨_, _, _, _, rfl, by rw [List.length_append, Hl5.out]; rfl, Hown8.out, I64s_append Hi5.out (I64s_one (I64_small (by omega) (by omega)) (I64_small (by omega) (by omega))), by omega, Hrd8.out.mono (by omega), HG8.out⟩
              · go_wp2_with fail
                refine (pick _ _ _ _ Hrd7.out (by omega) (by omega) (by omega)).mono ?_
                rintro e w8 ⟨z, hz0, hz1, rfl, hrd8, hg8⟩
                have Hown8 := Lib.hid (own_row Hown7.out hg8 hbw)
                have hgT := (Hown8.out.lt gT rfl).1
                have HG8 := Lib.hid (grownBy_trans HG7.out hg8)
                have Hrd8 := Lib.hid hrd8
                clear hg8 hrd8
                obtain ⟨u1, u2, hu1, hu2, hf1, hf2, Hset⟩ := own_set0 Hown8.out Hl5.out hnp z 6 (I64_small (by omega) (by omega)) (I64_small (by omega) (by omega)) Hi5.out
                have HSet := Lib.hid Hset; clear Hset
                have hnp' : (0 : Int) < (nT : Int) := by omega
                have HG9 := Lib.hid (grown_own (grown_own HG8.out (grownBy_setCell (w := w8) gT 0 (.int .i64 z)) (fun k hk => by cases hk; exact hgT)) (grownBy_setCell gT 1 (.int .i64 6)) (fun k hk => by cases hk; exact hgT))
                have Hrd9 := Lib.hid ((Hrd8.out.set (g := gT) (y := 0) (u := .int .i64 z) (by omega)).set (g := gT) (y := 1) (u := .int .i64 6) (by omega))
                go_wp2
                go_ret
                obtain ⟨ms', h1, h2, h3⟩ := HSet.out
                rw [h3] at h1
                exact ⟨_, _, _, ms', rfl, h3, h1, h2, by omega, Hrd9.out.mono (by omega), HG9.out⟩
          · have hyb : (y == 0) = false := by rw [beq_eq_false_iff_ne]; exact hy
            clear hy hy0 hy1
            have Hl5 : Hid (mq.length = mq.length) := rfl
            have Hi5 := Hi64
            have Hown5 := Hown4
            have HG5 := Lib.hid hG4
            have Hrd5 := Lib.hid hrk4
            have hnl : mq.length ≤ 11 := by omega
            have hnp : 0 < mq.length := hpos
            obtain ⟨w5, rfl⟩ : ∃ w5 : World, w5 = w4 := ⟨_, rfl⟩
            obtain ⟨gT, rfl⟩ : ∃ gT, gT = gq := ⟨_, rfl⟩
            obtain ⟨cT, rfl⟩ : ∃ cT, cT = cq := ⟨_, rfl⟩
            obtain ⟨mT, rfl⟩ : ∃ mT, mT = mq := ⟨_, rfl⟩
            generalize hnT : mT.length = nT at *
            have Hl6 : Hid (mT.length = nT) := hnT
            clear Hl5 hnT
            have Hl5 := Hl6
            go_wp2_with fail
            refine (odd _ _ _ _ Hrd5.out hn (by omega)).mono ?_
            rintro e w6 ⟨x, rfl, hrd6, hg6⟩
            have Hown6 : Hid (w6.ownsRow w.heap.size TM 2 (.slice (some ⟨gT, 0, none⟩) nT cT) nT (mcells mT)) := by
              have h0 := own_row Hown5.out hg6 hbw
              first | exact h0 | (rw [Hl5.out] at h0; exact h0)
            have HG6 := Lib.hid (grownBy_trans HG5.out hg6)
            have Hrd6 := Lib.hid hrd6
            clear hg6 hrd6 Hown5 HG5 Hrd5
            cases x with
            | false =>
              go_wp2
              go_ret
              exact ⟨_, _, _, mT, rfl, Hl5.out, Hown6.out, Hi5.out, by omega, Hrd6.out.mono (by omega), HG6.out⟩
            | true =>
              go_wp2_with fail
              refine (pick _ _ _ _ Hrd6.out (by omega) (by omega) (by omega)).mono ?_
              rintro e w7 ⟨z, hz0, hz1, rfl, hrd7, hg7⟩
              have Hown7 := Lib.hid (own_row Hown6.out hg7 hbw)
              have HG7 := Lib.hid (grownBy_trans HG6.out hg7)
              have Hrd7 := Lib.hid hrd7
              have hs7 := HG7.out.size
              clear hg7 hrd7
              have hz : z = 0 ∨ z = 1 ∨ z = 2 := by omega
              clear hz0 hz1
              rcases hz with rfl | rfl | rfl
              · go_wp2
                go_ret
                exact ⟨_, _, _, [], rfl, rfl, World.ownsRow_made _ _ 0 hs7 (Nat.zero_le _) rfl, by intro m hm; simp at hm, by simp, (Hrd7.out.alloc _).mono (by omega), only_alloc HG7.out _⟩
              · go_wp2_with (first
                  | (at_builtin
                     refine wpList_append_own _ rfl (.tmp 132) (.tmp 134) 31 rfl w.heap.size TM im (.agg #[.int .i64 0, .int .i64 0]) 2 16 Try.underlying31 Mi.out Mz0.out Mz1.out Mz2.out rfl (by decide) (.slice (some ⟨gT, 0, none⟩) nT cT) nT (mcells mT) rfl (Hown7.out.alloc _) ⟨w7.heap.size, 0, none⟩ 1 1 (mcells [(5, 0)]) rfl rfl (news2 _ _ rfl _ _ _) (mcells_one _) (by unfold maxLen; omega) (by omega) (by simp; omega) ?_
                     go_must (intro v8 w8 hown8 hgr8 _
                              have hG8 := grown_own (only_alloc HG7.out (.cells #[.int .i64 5, .int .i64 0] TM)) hgr8 (fun k hk => (Hown7.out.lt k hk).1)
                              have hrd8 := (Hrd7.out.alloc (.cells #[.int .i64 5, .int .i64 0] TM)).grown hgr8 (fun k hk => by have := (Hown7.out.lt k hk).1; omega)
                              obtain ⟨g8, c8, rfl⟩ := ownsRow_form hown8 (by omega)
                              have Hown8 : Hid (w8.ownsRow w.heap.size TM 2 (.slice (some ⟨g8, 0, none⟩) (nT + 1) c8) (nT + 1) (mcells (mT ++ [(5, 0)]))) := by
                                unfold Hid
                                rw [mcells_append]; exact hown8
                              have HG8 := Lib.hid hG8
                              have Hrd8 := Lib.hid hrd8
                              clear hown8 hgr8 hG8 hrd8))
                  | fail)
                go_ret
                exact ⟨_, _, _, _, rfl, by rw [List.length_append, Hl5.out]; rfl, Hown8.out, I64s_append Hi5.out (I64s_one (I64_small (by omega) (by omega)) (I64_small (by omega) (by omega))), by omega, Hrd8.out.mono (by omega), HG8.out⟩
              · go_wp2_with fail
                refine (pick _ _ _ _ Hrd7.out (by omega) (by omega) (by omega)).mono ?_
                rintro e w8 ⟨z, hz0, hz1, rfl, hrd8, hg8⟩
                have Hown8 := Lib.hid (own_row Hown7.out hg8 hbw)
                have hgT := (Hown8.out.lt gT rfl).1
                have HG8 := Lib.hid (grownBy_trans HG7.out hg8)
                have Hrd8 := Lib.hid hrd8
                clear hg8 hrd8
                obtain ⟨u1, u2, hu1, hu2, hf1, hf2, Hset⟩ := own_set0 Hown8.out Hl5.out hnp z 6 (I64_small (by omega) (by omega)) (I64_small (by omega) (by omega)) Hi5.out
                have HSet := Lib.hid Hset; clear Hset
                have hnp' : (0 : Int) < (nT : Int) := by omega
                have HG9 := Lib.hid (grown_own (grown_own HG8.out (grownBy_setCell (w := w8) gT 0 (.int .i64 z)) (fun k hk => by cases hk; exact hgT)) (grownBy_setCell gT 1 (.int .i64 6)) (fun k hk => by cases hk; exact hgT))
                have Hrd9 := Lib.hid ((Hrd8.out.set (g := gT) (y := 0) (u := .int .i64 z) (by omega)).set (g := gT) (y := 1) (u := .int .i64 6) (by omega))
                go_wp2
                go_ret
                obtain ⟨ms', h1, h2, h3⟩ := HSet.out
                rw [h3] at h1
                exact ⟨_, _, _, ms', rfl, h3, h1, h2, by omega, Hrd9.out.mono (by omega), HG9.out⟩
end Go.Proofs.Ythiabicleedleaa

/- A law of stage 5: what has no world stays so. It answers true, whatever the code. No condition. -/
import Derived.Test.YtncihjelpaiocaaDrawV
import Derived.Test.YtncihjelpaiocaaOneI
import Derived.Test.YtncihjelpaiocaaClaimI
import Derived.Test.YtncihjelpaiocaaOneU
import Derived.Test.YtncihjelpaiocaaClaimF
import Derived.Test.YtncihjelpaiocaaLawsA
import Derived.Deep.RegionHeld3
import Derived.Deep.Cut
import Derived.Test.YtncihjelpaiocaaOneA
namespace Go.Proofs.Ytncihjelpaiocaa
open Go.RowKit Go.Joins
/-- the claim that the first person lies: its marks in a row of their own, and a variable of two cells -/
theorem liar_laid (w : World) : ∃ w5 : World, w5 = (w.alloc (.cells #[.int .i64 0, .int .i64 0, .int .i64 2, .int .i64 0] TM)).alloc (.cells #[.int .i64 0, .slice (some ⟨w.heap.size, 0, none⟩) 2 2] TC) ∧
    Box w5 (w.heap.size + 1) (.int .i64 0) (.slice (some ⟨w.heap.size, 0, none⟩) 2 2) ∧ RdMarks w5 (w.heap.size + 1) (.slice (some ⟨w.heap.size, 0, none⟩) 2 2) [(0, 0), (2, 0)] ∧ Below w.heap.size w w5 ∧ w.heap.size + 1 < w5.heap.size := by
  obtain ⟨w1, e1⟩ : ∃ w1, w1 = w.alloc (.cells #[.int .i64 0, .int .i64 0, .int .i64 2, .int .i64 0] TM) := ⟨_, rfl⟩
  have hs1 : w1.heap.size = w.heap.size + 1 := by rw [e1]; simp
  have hh := heap_alloc_new w (.cells #[.int .i64 0, .int .i64 0, .int .i64 2, .int .i64 0] TM)
  have ho1 : w1.ownsRow w.heap.size TM 2 (.slice (some ⟨w.heap.size, 0, none⟩) 2 2) 2 (mcells [(0, 0), (2, 0)]) := by
    rw [e1]
    exact ⟨rfl, .inr ⟨w.heap.size, 2, _, rfl, Nat.le_refl _, hh, Nat.le_refl _, by unfold maxLen; omega, rfl, rfl⟩⟩
  have hb1 : Below w.heap.size w w1 := by rw [e1]; exact (Below.refl _ _).alloc (Nat.le_refl _) _
  obtain ⟨w2, e2, hx2, hb2, hs2⟩ := Box.new w1 (.int .i64 0) (.slice (some ⟨w.heap.size, 0, none⟩) 2 2) TC
  rw [hs1] at hx2
  refine ⟨w2, by rw [e2, e1], hx2, ?_, hb1.trans (hb2.mono hb1.size), by omega⟩
  have h1 := RdMarks.of_own (ms := [(0, 0), (2, 0)]) ho1 (I64s_two (I64_small (by omega) (by omega)) (I64_small (by omega) (by omega)) (I64_small (by omega) (by omega)) (I64_small (by omega) (by omega)))
  rw [hs1] at h1
  exact h1.below (fun q hq => hb2.block q (by omega))
theorem ClashMore (p : Int) (qs : List QC) (q : QC) (B : Nat) (v : Value) (w : World) (hr : RdStory w B v (qs ++ [q])) (hB : B ≤ w.heap.size) :
    Calls Try.prog 15 #[.int .i64 p, v] w fun e w' => e = .returned (.bool (clashV p (qs.map (·.2) ++ [q.2]))) ∧ Below w.heap.size w w' := by
  have h := implClashOk p _ B v w hr hB
  rw [map_more] at h
  exact h
theorem StoryMore (p : Int) (qs : List QC) (q : QC) (B : Nat) (v : Value) (w : World) (hr : RdStory w B v (qs ++ [q])) (hB : B ≤ w.heap.size) :
    Calls Try.prog 17 #[.int .i64 p, v] w fun e w' => e = .returned (.bool (storyOk p (qs.map (·.2) ++ [q.2]))) ∧ Below w.heap.size w w' := by
  have h := specStoryOk p _ B v w hr hB
  rw [map_more] at h
  exact h
theorem rdStory_nil5 (W : World) (B : Nat) (a : Option Addr) : RdStory W B (.slice a 0 0) [] :=
  ⟨a, 0, rfl, Nat.le_refl _, by unfold maxLen; omega, fun q hq => by simp at hq, fun j hj => by simp at hj⟩
theorem clash_empty (p : Int) (w : World) (a : Option Addr) : Calls Try.prog 15 #[.int .i64 p, .slice a 0 0] w fun e w' => e = .returned (.bool false) ∧ Below w.heap.size w w' := by
  have h := implClashOk p [] 0 (.slice a 0 0) w (rdStory_nil5 w 0 a) (Nat.zero_le _)
  rw [List.map_nil, clash_nil] at h
  exact h
end Go.Proofs.Ytncihjelpaiocaa
namespace Go.Proofs.Ytncihjelpaiocaa.fnClashOk
open Go.ChangeShapes Go.WideShapes Go.ChangeAt Go.RowKit Go.Joins
attribute [local irreducible] holds tabN tabV holdsV sameV followsV alwaysV matterV mirV mirOk mcells tmOf claimOk mayT mayV ctabV ctabN storyV storyOk storyN storyT ctermV ctermL denyV denyOk ccells clashV onlyOk onlyN knownF knownL knownK cntK swl needB needF needL leastR leastV woL
open Go.ChangeMaps (open_string shut_string)
set_option linter.unusedVariables false
set_option maxRecDepth 100000 in
set_option maxHeartbeats 4000000 in
theorem walk (a0 : Value) (n0 : Nat) (w : World) (w0 : RdBytes w w.heap.size a0 n0) :
    Calls Try.prog 3 #[a0] w fun e w' => e = .returned (.bool true) ∧ Below w.heap.size w w' := by
  have hr := w0
  by_cases hbig : n0 ≤ 1048576
  case neg =>
    obtain ⟨ao, cap, rfl, hl, hm, hc⟩ := w0
    have hbig' := code_big hbig
    unfold maxLen at hm
    clear hc hr hbig
    go_enter Try.func3, Try.ntmps3
    go_wp2
    go_ret
    exact ⟨rfl, Below.refl _ _⟩
  have hbig' : (n0 : Int) ≤ 1048576 := by omega
  clear hbig
  obtain ⟨ao, cap, rfl, hl, hm, hc⟩ := w0
  have Hr := Lib.hid hr
  clear hc hr hl hm
  go_enter Try.func3, Try.ntmps3
  go_wp2_with fail
  refine (drawClashOk _ _ _ Hr.out).mono ?_
  rintro e w1 ⟨p, v, qs, hp4', hp8, rfl, hst, hqs, hq7, hB1⟩
  have HS1 := Lib.hid hst
  obtain ⟨vo, vc, hvf⟩ := own_len hst.1
  subst hvf
  have hvc : qs.length ≤ vc := by
    rcases hst.1.2 with ⟨h0, hz⟩ | ⟨g', cap', cur, h0, _, _, h1, _⟩
    · injection h0 with _ h2 h3; omega
    · injection h0 with _ h2 h3; omega
  clear hst
  have HQ_1 := HS1
  obtain ⟨ic, hci, hcz0, hcz1, hcz2⟩ := info_parts Try.infoC
  have Ci := Lib.hid hci; clear hci
  have Cz0 := Lib.hid hcz0; clear hcz0
  have Cz1 := Lib.hid hcz1; clear hcz1
  have Cz2 := Lib.hid hcz2; clear hcz2
  have Hic := Lib.hid (fun B u W h h2 => implClashOk p qs B u W h h2)
  have Hsc := Lib.hid (fun B u W h h2 => specClashOk p qs B u W h h2)
  have Hso := Lib.hid (fun B u W h h2 => specStoryOk p qs B u W h h2)
  cases hok : storyOk p (qs.map (·.2)) with
  | false =>
    rw [clash_no hok] at Hic Hsc
    rw [hok] at Hso
    clear hok hvc
    go_wp2_with fail
    refine (Hic.out _ _ _ HQ_1.out.rd (Nat.le_refl _)).mono ?_
    rintro e w2 ⟨rfl, hb2⟩
    have HQ_2 := Lib.hid (HQ_1.out.below hb2)
    have hs2 := hb2.size
    have hB2 : Below w.heap.size w w2 := hB1.trans (hb2.mono hB1.size)
    clear hb2
    go_wp2_with fail
    refine (Hsc.out _ _ _ HQ_2.out.rd (Nat.le_refl _)).mono ?_
    rintro e w3 ⟨rfl, hb3⟩
    have HQ_3 := Lib.hid (HQ_2.out.below hb3)
    have hs3 := hb3.size
    have hB3 : Below w.heap.size w w3 := hB2.trans (hb3.mono hB2.size)
    clear hb3
    go_wp2_with fail
    refine (Hso.out _ _ _ HQ_3.out.rd (Nat.le_refl _)).mono ?_
    rintro e w4 ⟨rfl, hb4⟩
    have hs4 := hb4.size
    have hB4 : Below w.heap.size w w4 := hB3.trans (hb4.mono hB3.size)
    clear hb4
    go_wp2_with fail
    refine (alive _).mono ?_
    rintro e w' ⟨rfl, rfl⟩
    go_wp2
    go_ret
    exact ⟨rfl, hB4⟩
  | true =>
  rw [hok] at Hso
  have Hl1 := Lib.hid (fun u => ClashMore p qs (u, (0, [(0, 0), (2, 0)])))
  have Hl2 := Lib.hid (fun u => StoryMore p qs (u, (0, [(0, 0), (2, 0)])))
  have Hliar := Lib.hid (fun h => clash_liar (p := p) (s := qs.map (·.2)) h)
  have Hag := Lib.hid (fun c hc h => clash_again (p := p) (s := qs.map (·.2)) (c := c) hc hok h)
  have Hnil := Lib.hid (fun (W : World) a => clash_empty p W a)
  generalize hcl : clashV p (qs.map (·.2)) = cl at *
  have Hcl := Lib.hid hcl
  have Hok := Lib.hid hok
  clear hok hvc hcl
  go_wp2_with fail
  refine (Hic.out _ _ _ HQ_1.out.rd (Nat.le_refl _)).mono ?_
  rintro e w2 ⟨rfl, hb2⟩
  have HQ_2 := Lib.hid (HQ_1.out.below hb2)
  have hs2 := hb2.size
  have hB2 : Below w.heap.size w w2 := hB1.trans (hb2.mono hB1.size)
  clear hb2
  go_wp2_with fail
  refine (Hsc.out _ _ _ HQ_2.out.rd (Nat.le_refl _)).mono ?_
  rintro e w3 ⟨rfl, hb3⟩
  have HQ_3 := Lib.hid (HQ_2.out.below hb3)
  have hs3 := hb3.size
  have hB3 : Below w.heap.size w w3 := hB2.trans (hb3.mono hB2.size)
  clear hb3
  go_wp2_with fail
  refine (Hso.out _ _ _ HQ_3.out.rd (Nat.le_refl _)).mono ?_
  rintro e w4 ⟨rfl, hb4⟩
  have HQ_4 := Lib.hid (HQ_3.out.below hb4)
  have hs4 := hb4.size
  have hB4 : Below w.heap.size w w4 := hB3.trans (hb4.mono hB3.size)
  clear hb4
  generalize storyOk p (qs.map (·.2) ++ [(0, [(0, 0), (2, 0)])]) = o1 at *
  go_upto_region 10 with fail
  obtain ⟨w5, hw5, hx5, hu5, hb5, hs5⟩ := liar_laid w4
  rw [← hw5]
  have HQ_5 := Lib.hid (HQ_4.out.below hb5)
  have hB5 : Below w.heap.size w w5 := hB4.trans (hb5.mono hB4.size)
  have Hu5 := Lib.hid hu5
  have Hx5 := Lib.hid hx5
  obtain ⟨x1, x2, x3, x4, x5⟩ := hx5
  clear hw5 hb5 hu5
  go_cut [7] from 9 (fun v wr => w5.grownBy wr none ∧ wr.ownsRow w5.heap.size TC 2 v (qs.length + 1) (ccells qs ++ ccells [(.slice (some ⟨w4.heap.size, 0, none⟩) 2 2, (0, [(0, 0), (2, 0)]))]))
  case first =>
    go_region_held3 (fun w' => w'.cell? ⟨w4.heap.size + 1, 0, none⟩ = some (.int .i64 0) ∧ w'.cell? ⟨w4.heap.size + 1, 1, none⟩ = some (.slice (some ⟨w4.heap.size, 0, none⟩) 2 2))
      (first | (refine ⟨?_, ?_⟩ <;> first | go_keep | assumption) | assumption)
      (first
        | (refine app_keepS (by rfl) (.tmp 38) (.tmp 39) (by rfl) Ci.out Cz0.out Cz1.out Cz2.out (by first | exact HaveS.start w5 (ccells [(.slice (some ⟨w4.heap.size, 0, none⟩) 2 2, (0, [(0, 0), (2, 0)]))]) | exact (HaveS.start w5 (ccells [(.slice (some ⟨w4.heap.size, 0, none⟩) 2 2, (0, [(0, 0), (2, 0)]))])).drew | exact (HaveS.start w5 (ccells [(.slice (some ⟨w4.heap.size, 0, none⟩) 2 2, (0, [(0, 0), (2, 0)]))])).drewN _) (by rfl) (by rfl) HQ_5.out.rd (Nat.le_refl _) ?_ ?_
           go_must (omega)
           go_must (intro v1 wa hh
                    have n0wa := ((hh.1).cell_far ⟨w4.heap.size + 1, 0, none⟩ (by omega) (by simp)).trans x1
                    have n1wa := ((hh.1).cell_far ⟨w4.heap.size + 1, 1, none⟩ (by omega) (by simp)).trans x2
                    have hzwa := hh.1.size
                    have H1 := Lib.hid hh; clear hh))
        | (refine app_keepS (by rfl) (.tmp 38) (.tmp 39) (by rfl) Ci.out Cz0.out Cz1.out Cz2.out (by first | exact HaveS.laid_next w5 (ccells [(.slice (some ⟨w4.heap.size, 0, none⟩) 2 2, (0, [(0, 0), (2, 0)]))]) _ (newsC _ _ rfl _ _ _ _) | exact (HaveS.laid_next w5 (ccells [(.slice (some ⟨w4.heap.size, 0, none⟩) 2 2, (0, [(0, 0), (2, 0)]))]) _ (newsC _ _ rfl _ _ _ _)).drew | exact (HaveS.laid_next w5 (ccells [(.slice (some ⟨w4.heap.size, 0, none⟩) 2 2, (0, [(0, 0), (2, 0)]))]) _ (newsC _ _ rfl _ _ _ _)).drewN _) (by rfl) (by rfl) HQ_5.out.rd (Nat.le_refl _) ?_ ?_
           go_must (omega)
           go_must (intro v1 wa hh
                    have n0wa := ((hh.1).cell_far ⟨w4.heap.size + 1, 0, none⟩ (by omega) (by simp)).trans x1
                    have n1wa := ((hh.1).cell_far ⟨w4.heap.size + 1, 1, none⟩ (by omega) (by simp)).trans x2
                    have hzwa := hh.1.size
                    have H1 := Lib.hid hh; clear hh))
        | (refine app_keepS (by rfl) (.tmp 38) (.tmp 39) (by rfl) Ci.out Cz0.out Cz1.out Cz2.out (by first | exact HaveS.laid_first w5 (ccells [(.slice (some ⟨w4.heap.size, 0, none⟩) 2 2, (0, [(0, 0), (2, 0)]))]) _ (newsC _ _ rfl _ _ _ _) | exact (HaveS.laid_first w5 (ccells [(.slice (some ⟨w4.heap.size, 0, none⟩) 2 2, (0, [(0, 0), (2, 0)]))]) _ (newsC _ _ rfl _ _ _ _)).drew | exact (HaveS.laid_first w5 (ccells [(.slice (some ⟨w4.heap.size, 0, none⟩) 2 2, (0, [(0, 0), (2, 0)]))]) _ (newsC _ _ rfl _ _ _ _)).drewN _) (by rfl) (by rfl) HQ_5.out.rd (Nat.le_refl _) ?_ ?_
           go_must (omega)
           go_must (intro v1 wa hh
                    have n0wa := ((hh.1).cell_far ⟨w4.heap.size + 1, 0, none⟩ (by omega) (by simp)).trans x1
                    have n1wa := ((hh.1).cell_far ⟨w4.heap.size + 1, 1, none⟩ (by omega) (by simp)).trans x2
                    have hzwa := hh.1.size
                    have H1 := Lib.hid hh; clear hh))
        | (refine app_lastS (by rfl) (.tmp 40) (.tmp 42) (by rfl) Ci.out Cz0.out Cz1.out Cz2.out (q := (.slice (some ⟨w4.heap.size, 0, none⟩) 2 2, (0, [(0, 0), (2, 0)]))) (by first | exact H1.out | exact (H1.out).drew | exact (H1.out).drewN _) (by rfl) (by rfl) rfl ?_ ?_
           go_must (omega)
           go_must (intro v3 wc hg ho
                    have n0wc := ((hg).cell_far ⟨w4.heap.size + 1, 0, none⟩ (by omega) (by simp)).trans x1
                    have n1wc := ((hg).cell_far ⟨w4.heap.size + 1, 1, none⟩ (by omega) (by simp)).trans x2
                    have H3 := Lib.hid (And.intro hg ho); clear hg ho))
        | (refine app_lastS (by rfl) (.tmp 40) (.tmp 42) (by rfl) Ci.out Cz0.out Cz1.out Cz2.out (q := (.slice (some ⟨w4.heap.size, 0, none⟩) 2 2, (0, [(0, 0), (2, 0)]))) (by first | exact H1.out.lay _ (newsC _ _ rfl _ _ _ _) | exact (H1.out.lay _ (newsC _ _ rfl _ _ _ _)).drew | exact (H1.out.lay _ (newsC _ _ rfl _ _ _ _)).drewN _) (by rfl) (by rfl) rfl ?_ ?_
           go_must (omega)
           go_must (intro v3 wc hg ho
                    have n0wc := ((hg).cell_far ⟨w4.heap.size + 1, 0, none⟩ (by omega) (by simp)).trans x1
                    have n1wc := ((hg).cell_far ⟨w4.heap.size + 1, 1, none⟩ (by omega) (by simp)).trans x2
                    have H3 := Lib.hid (And.intro hg ho); clear hg ho))
        | fail)
    all_goals
      go_wp2
      go_meet
      case rel => exact ⟨H3.out.1, by have h := H3.out.2; simp only [Nat.zero_add, List.nil_append] at h; exact h⟩
  case rest =>
  rename World => w6
  obtain ⟨hG6, hY6⟩ := hcut
  have hb6 := below_none hG6
  have Hm6 := Lib.hid (rdStory_more (q := (.slice (some ⟨w4.heap.size, 0, none⟩) 2 2, (0, [(0, 0), (2, 0)]))) HQ_5.out.rd hb6 ⟨(Hu5.out.below (w' := w6) (fun q hq => hb6.block q (by omega))).mono (by have := hb6.size; omega), show I64 (0 : Int) from I64_small (by omega) (by omega)⟩ hY6)
  have HQ_6 := Lib.hid (HQ_5.out.below hb6)
  have hB6 : Below w.heap.size w w6 := hB5.trans (hb6.mono hB5.size)
  clear hG6 hY6 hb6 x1 x2 x3 x4 x5 HQ_5
  generalize clashV p (qs.map (·.2) ++ [(0, [(0, 0), (2, 0)])]) = c1 at *
  have hown60 : (w6.alloc (.cells #[] TC)).ownsRow w6.heap.size TC 2 (.slice (some ⟨w6.heap.size, 0, none⟩) 0 0) 0 [] := World.ownsRow_made _ _ 0 (Nat.le_refl _) (by unfold maxLen; omega) rfl
  have hb60 : Below w6.heap.size w6 (w6.alloc (.cells #[] TC)) := (Below.refl _ _).alloc (Nat.le_refl _) _
  have Hq60 := Lib.hid (HQ_6.out.rd.below (w' := w6.alloc (.cells #[] TC)) hb60.block)
  have Hown60 := Lib.hid hown60
  have Hb60 := Lib.hid hb60
  clear hown60 hb60
  by_cases h0 : qs.length = 0
  · have h0i : ¬ (0 : Int) < (qs.length : Int) := by omega
    have hq0 : qs = [] := List.eq_nil_of_length_eq_zero h0
    have Hso2 := Lib.hid (fun B u W h h2 => specStoryOk p [] B u W h h2)
    have Hcl2 := Lib.hid (fun B u W h h2 => implClashOk p [] B u W h h2)
    rw [show storyOk p (([] : List QC).map (·.2)) = true by rw [← hq0]; exact Hok.out] at Hso2
    rw [show clashV p (([] : List QC).map (·.2)) = cl by rw [← hq0]; exact Hcl.out] at Hcl2
    obtain ⟨o2, ho2⟩ : ∃ o2 : Bool, o2 = true := ⟨_, rfl⟩
    rw [← ho2] at Hso2
    have Hq0 := Lib.hid hq0
    clear ho2 hq0
    go_wp2_with (first
      | (at_builtin; refine wpList_append_story rfl (.tmp 44) (.tmp 45) rfl Ci.out Cz0.out Cz1.out Cz2.out rfl rfl Hown60.out Hq60.out (by omega) (by simp) ?_; intro v8 w8 hown8 hgr8 _
         have hb8 := below_grown_row Hb60.out hgr8 (by simp) (fun q hq => (Hown60.out.lt q hq).1)
         have HS8 : Hid (RdStory w8 w8.heap.size v8 []) := rdStory_own (by rw [Nat.zero_add, List.nil_append, Hq0.out] at hown8; exact hown8) rfl (fun q hq => by simp at hq)
         have Hm8 := Lib.hid ((Hm6.out.below (w' := w8) hb8.block).mono hb8.size)
         have hB8 : Below w.heap.size w w8 := hB6.trans (hb8.mono hB6.size)
         clear hown8 hgr8 hb8)
      | fail)
    refine (Hl2.out _ _ _ _ Hm8.out (Nat.le_refl _)).mono ?_
    rintro e w9 ⟨rfl, hb9⟩
    have HS9 := Lib.hid ((HS8.out.below (w' := w9) hb9.block).mono hb9.size)
    have Hm9 := Lib.hid ((Hm8.out.below (w' := w9) hb9.block).mono hb9.size)
    have hB9 : Below w.heap.size w w9 := hB8.trans (hb9.mono hB8.size)
    clear hb9
    cases o1 with
    | false =>
      go_wp2_with fail
      refine (Hso2.out _ _ _ HS9.out (Nat.le_refl _)).mono ?_
      rintro e w10 ⟨rfl, hb10⟩
      have HS10 := Lib.hid ((HS9.out.below (w' := w10) hb10.block).mono hb10.size)
      have hB10 : Below w.heap.size w w10 := hB9.trans (hb10.mono hB9.size)
      clear hb10
      cases o2 with
      | false =>
        go_wp2_with fail
        refine (Hnil.out _ _).mono ?_
        rintro e w11 ⟨rfl, hb11⟩
        have hB11 : Below w.heap.size w w11 := hB10.trans (((((Below.refl _ _).alloc (Nat.le_refl _) _).trans (hb11.mono (by simp)))).mono hB10.size)
        clear hb11
        go_wp2
        go_ret
        exact ⟨rfl, hB11⟩
      | true =>
        go_wp2_with fail
        refine (Hcl2.out _ _ _ HS10.out (Nat.le_refl _)).mono ?_
        rintro e w11 ⟨rfl, hb11⟩
        have hB11 : Below w.heap.size w w11 := hB10.trans (hb11.mono hB10.size)
        clear hb11
        go_wp2_with fail
        refine (Hnil.out _ _).mono ?_
        rintro e w12 ⟨rfl, hb12⟩
        have hB12 : Below w.heap.size w w12 := hB11.trans (((((Below.refl _ _).alloc (Nat.le_refl _) _).trans (hb12.mono (by simp)))).mono hB11.size)
        clear hb12
        go_wp2
        go_ret
        exact ⟨rfl, hB12⟩
    | true =>
      have hc1t := Hliar.out rfl
      subst hc1t
      go_wp2_with fail
      refine (Hl1.out _ _ _ _ Hm9.out (Nat.le_refl _)).mono ?_
      rintro e w10 ⟨rfl, hb10⟩
      have HS10 := Lib.hid ((HS9.out.below (w' := w10) hb10.block).mono hb10.size)
      have hB10 : Below w.heap.size w w10 := hB9.trans (hb10.mono hB9.size)
      clear hb10
      go_wp2_with fail
      refine (Hso2.out _ _ _ HS10.out (Nat.le_refl _)).mono ?_
      rintro e w11 ⟨rfl, hb11⟩
      have HS11 := Lib.hid ((HS10.out.below (w' := w11) hb11.block).mono hb11.size)
      have hB11 : Below w.heap.size w w11 := hB10.trans (hb11.mono hB10.size)
      clear hb11
      cases o2 with
      | false =>
        go_wp2_with fail
        refine (Hnil.out _ _).mono ?_
        rintro e w12 ⟨rfl, hb12⟩
        have hB12 : Below w.heap.size w w12 := hB11.trans (((((Below.refl _ _).alloc (Nat.le_refl _) _).trans (hb12.mono (by simp)))).mono hB11.size)
        clear hb12
        go_wp2
        go_ret
        exact ⟨rfl, hB12⟩
      | true =>
        go_wp2_with fail
        refine (Hcl2.out _ _ _ HS11.out (Nat.le_refl _)).mono ?_
        rintro e w12 ⟨rfl, hb12⟩
        have hB12 : Below w.heap.size w w12 := hB11.trans (hb12.mono hB11.size)
        clear hb12
        go_wp2_with fail
        refine (Hnil.out _ _).mono ?_
        rintro e w13 ⟨rfl, hb13⟩
        have hB13 : Below w.heap.size w w13 := hB12.trans (((((Below.refl _ _).alloc (Nat.le_refl _) _).trans (hb13.mono (by simp)))).mono hB12.size)
        clear hb13
        go_wp2
        go_ret
        exact ⟨rfl, hB13⟩
  · have h0i : (0 : Int) < (qs.length : Int) := by omega
    obtain ⟨ao', cap', hv', hal, ham, _, hac⟩ := HQ_6.out.rd
    obtain ⟨b, off, hao, hb, hc1, hc2⟩ := hac 0 (by omega)
    have hvo : vo = some ⟨b, off, none⟩ := by
      injection hv' with hv1 hv2 hv3
      rw [hv1, hao]
    subst hvo
    have hz := HQ_6.out.rd.get (j := 0) (by omega)
    have hmem : (qs.getD 0 qc0) ∈ qs := by
      have e : qs.getD 0 qc0 = qs[0]'(by omega) := by simp [List.getD, show 0 < qs.length by omega]
      rw [e]; exact List.getElem_mem _
    have Hag' := Lib.hid (fun h => Hag.out (qs.getD 0 qc0).2 (List.mem_map.2 ⟨_, hmem, rfl⟩) h)
    have Hso2 := Lib.hid (StoryMore p qs (qs.getD 0 qc0))
    have Hcl2' := Lib.hid (ClashMore p qs (qs.getD 0 qc0))
    clear hac hal ham hv' hao hmem
    rw [show off + 0 * 2 = off by omega] at hc1
    rw [show off + 0 * 2 + 1 = off + 1 by omega] at hc2
    generalize qs.getD 0 qc0 = c0 at *
    generalize storyOk p (qs.map (·.2) ++ [c0.2]) = o2 at *
    generalize clashV p (qs.map (·.2) ++ [c0.2]) = c2 at *
    obtain ⟨uc, kc, mc⟩ := c0
    dsimp only at hc1 hc2 hz
    have Hz := Lib.hid hz
    have hone : uc.oneCell' = true := by
      obtain ⟨a, c, hv, _⟩ := hz.1
      rw [hv]; rfl
    have hcap : 0 < qs.length ∧ qs.length ≤ vc := by
      have := HQ_6.out.rd.len
      obtain ⟨a, c, hv, h1, _⟩ := this
      injection hv with _ _ h3
      omega
    clear hz Hag
    go_wp2_with (first
      | (at_builtin; refine wpList_append_story rfl (.tmp 44) (.tmp 45) rfl Ci.out Cz0.out Cz1.out Cz2.out rfl rfl Hown60.out Hq60.out (by omega) (by simp) ?_; intro v7 w7 hown7 hgr7 _
         have hb7 := below_grown_row Hb60.out hgr7 (by simp) (fun q hq => (Hown60.out.lt q hq).1)
         have hs7 := hb7.size
         rw [Nat.zero_add, List.nil_append] at hown7
         have Hown7 := Lib.hid hown7
         have Hb7 := Lib.hid hb7
         have d1 := (hb7.cell (p := ⟨b, off, none⟩) hb).trans hc1
         have d2 := (hb7.cell (p := ⟨b, off + 1, none⟩) hb).trans hc2
         clear hown7 hgr7 hb7)
      | (at_builtin; refine wpList_append_own _ rfl (.tmp 50) (.tmp 54) 23 rfl w6.heap.size TC ic (.agg #[.int .i64 0, .slice none 0 0]) 2 32 Try.underlying23 Ci.out Cz0.out Cz1.out Cz2.out rfl (by decide) _ _ _ rfl (Hown7.out.alloc _) ⟨w7.heap.size, 0, none⟩ 1 1 (ccells [(uc, (kc, mc))]) rfl (by rw [ccells_length]; rfl) (newsC _ _ rfl _ _ _ _) (ccells_one (by simpa using hone)) (by unfold maxLen; omega) (by omega) (by simp; omega) ?_; intro v8 w8 hown8 hgr8 _
         have hb8 := below_grown_row (Hb7.out.alloc hs7 _) hgr8 (by simp; omega) (fun q hq => (Hown7.out.lt q hq).1)
         have HS8 := Lib.hid (rdStory_more (q := (uc, (kc, mc))) HQ_6.out.rd hb8 ⟨(Hz.out.1.below (w' := w8) hb8.block).mono hb8.size, Hz.out.2⟩ hown8)
         have Hm8 := Lib.hid ((Hm6.out.below (w' := w8) hb8.block).mono hb8.size)
         have hB8 : Below w.heap.size w w8 := hB6.trans (hb8.mono hB6.size)
         clear hown8 hgr8 hb8)
      | fail)
    refine (Hl2.out _ _ _ _ Hm8.out (Nat.le_refl _)).mono ?_
    rintro e w9 ⟨rfl, hb9⟩
    have HS9 := Lib.hid ((HS8.out.below (w' := w9) hb9.block).mono hb9.size)
    have Hm9 := Lib.hid ((Hm8.out.below (w' := w9) hb9.block).mono hb9.size)
    have hB9 : Below w.heap.size w w9 := hB8.trans (hb9.mono hB8.size)
    clear hb9
    cases o1 with
    | false =>
      go_wp2_with fail
      refine (Hso2.out _ _ _ HS9.out (Nat.le_refl _)).mono ?_
      rintro e w10 ⟨rfl, hb10⟩
      have HS10 := Lib.hid ((HS9.out.below (w' := w10) hb10.block).mono hb10.size)
      have hB10 : Below w.heap.size w w10 := hB9.trans (hb10.mono hB9.size)
      clear hb10
      cases o2 with
      | false =>
        go_wp2_with fail
        refine (Hnil.out _ _).mono ?_
        rintro e w11 ⟨rfl, hb11⟩
        have hB11 : Below w.heap.size w w11 := hB10.trans (((((Below.refl _ _).alloc (Nat.le_refl _) _).trans (hb11.mono (by simp)))).mono hB10.size)
        clear hb11
        go_wp2
        go_ret
        exact ⟨rfl, hB11⟩
      | true =>
        have hc2t := Hag'.out rfl
        subst hc2t
        have Hcl2 := Hcl2'
        go_wp2_with fail
        refine (Hcl2.out _ _ _ HS10.out (Nat.le_refl _)).mono ?_
        rintro e w11 ⟨rfl, hb11⟩
        have hB11 : Below w.heap.size w w11 := hB10.trans (hb11.mono hB10.size)
        clear hb11
        go_wp2_with fail
        refine (Hnil.out _ _).mono ?_
        rintro e w12 ⟨rfl, hb12⟩
        have hB12 : Below w.heap.size w w12 := hB11.trans (((((Below.refl _ _).alloc (Nat.le_refl _) _).trans (hb12.mono (by simp)))).mono hB11.size)
        clear hb12
        go_wp2
        go_ret
        exact ⟨rfl, hB12⟩
    | true =>
      have hc1t := Hliar.out rfl
      subst hc1t
      go_wp2_with fail
      refine (Hl1.out _ _ _ _ Hm9.out (Nat.le_refl _)).mono ?_
      rintro e w10 ⟨rfl, hb10⟩
      have HS10 := Lib.hid ((HS9.out.below (w' := w10) hb10.block).mono hb10.size)
      have hB10 : Below w.heap.size w w10 := hB9.trans (hb10.mono hB9.size)
      clear hb10
      go_wp2_with fail
      refine (Hso2.out _ _ _ HS10.out (Nat.le_refl _)).mono ?_
      rintro e w11 ⟨rfl, hb11⟩
      have HS11 := Lib.hid ((HS10.out.below (w' := w11) hb11.block).mono hb11.size)
      have hB11 : Below w.heap.size w w11 := hB10.trans (hb11.mono hB10.size)
      clear hb11
      cases o2 with
      | false =>
        go_wp2_with fail
        refine (Hnil.out _ _).mono ?_
        rintro e w12 ⟨rfl, hb12⟩
        have hB12 : Below w.heap.size w w12 := hB11.trans (((((Below.refl _ _).alloc (Nat.le_refl _) _).trans (hb12.mono (by simp)))).mono hB11.size)
        clear hb12
        go_wp2
        go_ret
        exact ⟨rfl, hB12⟩
      | true =>
        have hc2t := Hag'.out rfl
        subst hc2t
        have Hcl2 := Hcl2'
        go_wp2_with fail
        refine (Hcl2.out _ _ _ HS11.out (Nat.le_refl _)).mono ?_
        rintro e w12 ⟨rfl, hb12⟩
        have hB12 : Below w.heap.size w w12 := hB11.trans (hb12.mono hB11.size)
        clear hb12
        go_wp2_with fail
        refine (Hnil.out _ _).mono ?_
        rintro e w13 ⟨rfl, hb13⟩
        have hB13 : Below w.heap.size w w13 := hB12.trans (((((Below.refl _ _).alloc (Nat.le_refl _) _).trans (hb13.mono (by simp)))).mono hB12.size)
        clear hb13
        go_wp2
        go_ret
        exact ⟨rfl, hB13⟩

set_option maxRecDepth 100000 in
theorem lifted (os : Os) (started : os.Started) (H : Type) (enc : TypeId × Value → H) :
    ReturnsInHanded {} Try.checked os 3 .any (Rows.fnClashOkSpec.pre6 enc Try.prog Try.f3 Rows.fnClashOkRow.domain false) (Rows.fnClashOkSpec.post enc Try.prog Try.f3 false true false false) := by
  refine returnsInHanded_of_change (C := Try.checked) Try.own started (by kernel_rfl) Try.func3
    (ChangeSpec.witness6 (enc := enc) (C := Try.checked) false ⟨#[], #[.slice none 0 0], []⟩ 8 (by kernel_rfl) (by kernel_rfl) (by kernel_rfl) (by kernel_rfl)) ?_
  intro W base args ds gs before hval0 hW hcnd _
  have hval : ∀ (j : Nat) t v, Try.f3.params[j]? = some t → args[j]? = some v → Value.okWide Try.prog W .any base t v := hval0
  have hW' := hW
  obtain ⟨p, q, hA0, hV, rfl, hfz, hnd⟩ := hW
  have hA : DataW.TrodAll enc Try.prog W 0 (fun _ => true) true Try.f3.params.toList args.toList ds p := hA0
  rw [Try.params3] at hA hval
  obtain ⟨v0, vs0, d0, ds0, p0, q0, hargs, rfl, rfl, h0, r0⟩ := trodAll_cons hA
  obtain ⟨rfl, rfl, rfl⟩ := trodAll_nil r0
  obtain rfl : args = #[v0] := by cases args; simp_all
  obtain ⟨rfl, rfl⟩ := trodVars_none hV
  obtain ⟨a0, len0, cap0, rfl⟩ := okWide_slice Try.underlying22 (hval 0 22 v0 rfl rfl)
  have k0 := h0
  have lt0 : ∀ x ∈ p0, x.block < W.heap.size := by obtain ⟨m, hm⟩ := k0; exact DataW.trod_lt m _ _ _ hm
  obtain ⟨z0, w0⟩ : ∃ zs, IsRow .u8 W a0 len0 cap0 zs := by
    obtain ⟨fuel, hf⟩ := h0
    rcases open_ints Try.underlying22 Try.underlying5 (by kernel_rfl) hf with ⟨hcs, _⟩ | ⟨x, l, c, zs, hcs, _, hl, hm, hz, _, hcell, hwz⟩
    · simp [Value.cells] at hcs
      obtain ⟨rfl, rfl, rfl⟩ := hcs
      exact ⟨[], .inl ⟨rfl, rfl, rfl, rfl⟩⟩
    · simp [Value.cells] at hcs
      obtain ⟨rfl, rfl, rfl⟩ := hcs
      exact ⟨zs, .inr ⟨_, rfl, hl, hm, by simpa using hz, hcell, hwz⟩⟩
  clear hA0 hval0
  refine (walk _ _ W (RdBytes.of_row w0)).mono fun e W' ⟨he, bel⟩ => ?_
  subst he
  exact ⟨_, rfl, _, _, _, [], _, [], hW', trodAll_mk1 (shut_bool Try.underlying4 _), (trodAll_cons_mk (Below.trod Try.laidOut (by kernel_rfl) (of_decide_eq_true (by kernel_rfl)) k0 bel lt0) trodAll_mk0), rfl, bel.frame _, fun h => by cases h⟩

theorem closed : joinedFacts Try.pinned.checked.prog 3 Try.f3 Rows.fnClashOkSpec Rows.fnClashOkRow = true := by
  unfold joinedFacts
  exact (and_tt (and_tt (and_tt (and_tt (and_tt (and_tt (and_tt (and_tt (and_tt (and_tt (and_tt (and_tt (and_tt (and_tt (and_tt (and_tt (and_tt (and_tt (and_tt (and_tt (and_tt (and_tt (and_tt (and_tt (and_tt (and_tt (and_tt (and_tt (and_tt (and_tt (and_tt (by kernel_rfl) (by kernel_rfl)) (by kernel_rfl)) (by kernel_rfl)) (by kernel_rfl)) (by kernel_rfl)) (by kernel_rfl)) (by kernel_rfl)) (by kernel_rfl)) (by kernel_rfl)) (by kernel_rfl)) (by kernel_rfl)) (by kernel_rfl)) (by kernel_rfl)) (by kernel_rfl)) (by kernel_rfl)) (by kernel_rfl)) (by kernel_rfl)) (by kernel_rfl)) (by kernel_rfl)) (by kernel_rfl)) (by kernel_rfl)) (by kernel_rfl)) (by kernel_rfl)) (by kernel_rfl)) Try.mayEnter0) (lifted_tt Try.lifts0 rfl)) (make_tt Try.make0 rfl)) (by kernel_rfl)) (by kernel_rfl)) (by kernel_rfl)) (by kernel_rfl))
theorem over : Rows.fnClashOkRow.holds Try.pinned (OpenSpec.ofChange Rows.fnClashOkSpec) :=
  OpenClaim.holds_of_wide 3 Try.f3 rfl rfl rfl rfl rfl rfl rfl ⟨rfl, rfl, rfl, rfl, rfl⟩ rfl rfl rfl rfl rfl (by kernel_rfl) Try.func3 closed
    (of_decide_eq_true (by kernel_rfl)) (by unfold Func.isWrapper; first | (rw [if_pos (by decide +kernel)]; kernel_rfl) | (rw [if_neg (by decide +kernel)]; exact ⟨rfl, rfl⟩))
    (fun os started H enc _ => lifted os started H enc)

theorem proved : Rows.FnClashOkSaid := over
end Go.Proofs.Ytncihjelpaiocaa.fnClashOk


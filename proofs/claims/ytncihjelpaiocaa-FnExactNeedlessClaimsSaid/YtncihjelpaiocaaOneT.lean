/- Contracts of the reference's stories with one answer: needless claims. -/
import Derived.Test.YtncihjelpaiocaaOneS
namespace Go.Proofs.Ytncihjelpaiocaa
open Go.RowKit Go.Joins
attribute [local irreducible] holds tabN tabV holdsV sameV followsV alwaysV matterV claimOk mayT mayV ctabV ctabN storyV storyOk storyN storyT ctermV ctermL clashV onlyOk onlyN knownF knownL knownK cntK swl needL leastR leastV ccells
theorem RdStory.cells_at {w w' : World} {B b off n cap : Nat} {qs : List QC} (h : RdStory w B (.slice (some ⟨b, off, none⟩) n cap) qs) (hb : ∀ k, k < B → w'.heap[k]? = w.heap[k]?) : ∀ (j : Nat) (u : Value), (ccells qs)[j]? = some u → w'.cell? ((⟨b, off, none⟩ : Addr).add j) = some u := (h.below hb).cells
set_option maxRecDepth 100000 in
set_option maxHeartbeats 2000000 in
theorem specWithout (qs : List QC) (k : Nat) (hk : k < qs.length) (hsz : qs.length ≤ 1000) (B : Nat) (v : Value) (w : World) (hr : RdStory w B v qs) (hB : B ≤ w.heap.size) :
    Calls Try.prog 62 #[v, .int .i64 k] w fun e w' => ∃ u, e = .returned u ∧ w'.ownsRow w.heap.size TC 2 u (qs.length - 1) (ccells (woL qs k)) ∧ Below w.heap.size w w' := by
  obtain ⟨ic, hci, hcz0, hcz1, hcz2⟩ := info_parts Try.infoC
  have Ci := Lib.hid hci; clear hci
  have Cz0 := Lib.hid hcz0; clear hcz0
  have Cz1 := Lib.hid hcz1; clear hcz1
  have Cz2 := Lib.hid hcz2; clear hcz2
  obtain ⟨ao, cap, rfl, hl, hm, hh⟩ := hr.len
  obtain ⟨b, off, rfl, hb⟩ := hh (by omega)
  unfold maxLen at hm
  have Hpre := Lib.hid (hr.pre (k := k) (by omega))
  have Hpost := Lib.hid (hr.post (k := k + 1) (by omega))
  have Hone1 := Lib.hid Hpre.out.one
  have Hone2 := Lib.hid Hpost.out.one
  have Hl1 : Hid ((ccells (qs.take k)).length = k * 2) := by unfold Hid; rw [ccells_length, List.length_take]; omega
  have Hl2 : Hid ((ccells (qs.drop (k + 1))).length = (qs.length - (k + 1)) * 2) := by unfold Hid; rw [ccells_length, List.length_drop]
  have Hwo := Lib.hid (woL_take_drop qs k)
  have hown0 : (w.alloc (.cells #[] TC)).ownsRow w.heap.size TC 2 (.slice (some ⟨w.heap.size, 0, none⟩) 0 0) 0 [] := World.ownsRow_made _ _ 0 (Nat.le_refl _) (by unfold maxLen; omega) rfl
  have hb0 : Below w.heap.size w (w.alloc (.cells #[] TC)) := (Below.refl _ _).alloc (Nat.le_refl _) _
  have Hown0 := Lib.hid hown0
  have Hb0 := Lib.hid hb0
  have Hc1 := Lib.hid (Hpre.out.cells_at (w' := w.alloc (.cells #[] TC)) (fun q hq => hb0.block q (by omega)))
  clear hr hh hown0 hb0
  generalize qs.length = n at *
  generalize ccells (qs.take k) = C1 at *
  generalize hC2 : ccells (qs.drop (k + 1)) = C2 at *
  have HC2 := Lib.hid hC2; clear hC2
  by_cases hcap : k + 1 = cap
  · have hn1 : n = k + 1 := by omega
    have hm0 : n - (k + 1) = 0 := by omega
    have Hz : Hid (C2 = []) := List.eq_nil_of_length_eq_zero (by rw [Hl2.out]; omega)
    have hci : (k : Int) + 1 = cap := by omega
    go_enter Try.func62, Try.ntmps62
    go_wp2_with (first
      | (at_builtin; refine wpList_append_own _ rfl (.tmp 6) (.tmp 9) 23 rfl w.heap.size TC ic (.agg #[.int .i64 0, .slice none 0 0]) 2 32 Try.underlying23 Ci.out Cz0.out Cz1.out Cz2.out rfl (by decide) _ 0 [] rfl Hown0.out ⟨b, off, none⟩ k cap C1 rfl Hl1.out Hc1.out Hone1.out (by unfold maxLen; omega) (by omega) (by simp) ?_; intro v4 w4 hown4 hgr4 _
         have Hb4 := Lib.hid (below_grown_row Hb0.out hgr4 (by simp) (fun q hq => (Hown0.out.lt q hq).1))
         have Hs4 := Hb4.out.size
         have Hc4 := Lib.hid (Hpost.out.cells_at (w' := w4) (fun q hq => Hb4.out.block q (by omega)))
         rw [HC2.out] at Hc4
         have Hown4 := Lib.hid hown4
         clear hown4 hgr4)
      | (at_builtin; refine wpList_append_own _ rfl (.tmp 11) (.tmp 15) 23 rfl w.heap.size TC ic (.agg #[.int .i64 0, .slice none 0 0]) 2 32 Try.underlying23 Ci.out Cz0.out Cz1.out Cz2.out rfl (by decide) _ _ _ rfl Hown4.out ⟨b, off, none⟩ 0 0 [] rfl rfl (fun j u hj => by simp at hj) (by simp) (by unfold maxLen; omega) (by omega) (by omega) ?_; intro v5 w5 hown5 hgr5 _
         have Hb5 := Lib.hid (below_grown_row Hb4.out hgr5 Hs4 (fun q hq => (Hown4.out.lt q hq).1))
         have Hown5 := Lib.hid hown5
         clear hown5 hgr5)
      | fail)
    go_wp2
    go_ret
    refine ⟨_, rfl, ?_, Hb5.out⟩
    rw [Hwo.out, Hz.out]
    have h := Hown5.out
    rw [List.nil_append, show 0 + k + 0 = cap - 1 by omega] at h
    exact h
  · have hlt : k + 1 < cap := by omega
    have hci : ¬ ((k : Int) + 1 = cap) := by omega
    go_enter Try.func62, Try.ntmps62
    go_wp2_with (first
      | (at_builtin; refine wpList_append_own _ rfl (.tmp 6) (.tmp 9) 23 rfl w.heap.size TC ic (.agg #[.int .i64 0, .slice none 0 0]) 2 32 Try.underlying23 Ci.out Cz0.out Cz1.out Cz2.out rfl (by decide) _ 0 [] rfl Hown0.out ⟨b, off, none⟩ k cap C1 rfl Hl1.out Hc1.out Hone1.out (by unfold maxLen; omega) (by omega) (by simp) ?_; intro v4 w4 hown4 hgr4 _
         have Hb4 := Lib.hid (below_grown_row Hb0.out hgr4 (by simp) (fun q hq => (Hown0.out.lt q hq).1))
         have Hs4 := Hb4.out.size
         have Hc4 := Lib.hid (Hpost.out.cells_at (w' := w4) (fun q hq => Hb4.out.block q (by omega)))
         rw [HC2.out] at Hc4
         have Hown4 := Lib.hid hown4
         clear hown4 hgr4)
      | (at_builtin; refine wpList_append_own _ rfl (.tmp 11) (.tmp 15) 23 rfl w.heap.size TC ic (.agg #[.int .i64 0, .slice none 0 0]) 2 32 Try.underlying23 Ci.out Cz0.out Cz1.out Cz2.out rfl (by decide) _ _ _ rfl Hown4.out ⟨b, off + (k + 1) * 2, none⟩ (n - (k + 1)) (cap - (k + 1)) C2 rfl Hl2.out Hc4.out Hone2.out (by unfold maxLen; omega) (by omega) (by omega) ?_; intro v5 w5 hown5 hgr5 _
         have Hb5 := Lib.hid (below_grown_row Hb4.out hgr5 Hs4 (fun q hq => (Hown4.out.lt q hq).1))
         have Hown5 := Lib.hid hown5
         clear hown5 hgr5)
      | fail)
    go_wp2
    go_ret
    refine ⟨_, rfl, ?_, Hb5.out⟩
    rw [Hwo.out]
    have h := Hown5.out
    rw [List.nil_append, show 0 + k + (n - (k + 1)) = n - 1 by omega] at h
    exact h
theorem storyOk_len {p : Int} {qs : List QC} (h : storyOk p (qs.map (·.2)) = true) : qs.length ≤ 6 := by
  have := (storyOk_iff.1 h).2.2
  simpa using this
set_option maxRecDepth 100000 in
set_option maxHeartbeats 4000000 in
theorem specNeedless (p : Int) (qs : List QC) (B : Nat) (v : Value) (w : World) (hr : RdStory w B v qs) (hB : B ≤ w.heap.size) :
    Calls Try.prog 31 #[.int .i64 p, v] w fun e w' => ∃ u, e = .returned u ∧ w'.ownsRow w.heap.size 3 1 u (needL p (qs.map (·.2))).length (vals (needL p (qs.map (·.2)))) ∧ Below w.heap.size w w' := by
  obtain ⟨i0, hi, hz0, hz1, hz2⟩ := info_parts Try.info3
  have Hi := Lib.hid hi; clear hi
  have Hz0 := Lib.hid hz0; clear hz0
  have Hz1 := Lib.hid hz1; clear hz1
  have Hz2 := Lib.hid hz2; clear hz2
  have hso := fun B v w h hB => specStoryOk p qs B v w h hB
  have Hr := Lib.hid hr
  obtain ⟨ao, cap, rfl, hl, hm, hh⟩ := hr.len
  unfold maxLen at hm
  obtain ⟨wo, rfl⟩ : ∃ wo : World, wo = w := ⟨_, rfl⟩
  have hown0 : (wo.alloc (.cells #[] 3)).ownsRow wo.heap.size 3 1 (.slice (some ⟨wo.heap.size, 0, none⟩) 0 0) 0 (vals []) := World.ownsRow_made _ _ 0 (Nat.le_refl _) (by unfold maxLen; omega) rfl
  have hb0 : Below wo.heap.size wo (wo.alloc (.cells #[] 3)) := (Below.refl _ _).alloc (Nat.le_refl _) _
  have Hown0 := Lib.hid hown0
  have Hb0 := Lib.hid hb0
  clear hr hown0 hb0 hh
  cases hok : storyOk p (qs.map (·.2)) with
  | false =>
    have Hf := Lib.hid (needL_no hok)
    rw [hok] at hso
    have Hso := Lib.hid hso; clear hso hok
    go_enter Try.func31, Try.ntmps31
    go_wp2
    go_loopw [5, 6] (fun u i wr => u = .slice (some ⟨wo.heap.size, 0, none⟩) 0 0 ∧ i = .int .i64 (0 : Nat) ∧ wr = wo.alloc (.cells #[] 3)) (fun _ _ _ => 0)
    case atStart => exact ⟨rfl, rfl, rfl⟩
    case round =>
      obtain ⟨rfl, rfl, hwr⟩ := hrel
      rw [← hwr] at Hown0 Hb0
      have hBr : B ≤ wr.heap.size := by have := Hb0.out.size; omega
      have Hr1 := Lib.hid (Hr.out.below (w' := wr) (fun q hq => Hb0.out.block q (by omega)))
      clear hwr
      rw [show ((0 : Nat) : Int) = 0 from rfl]
      by_cases h0 : 0 < qs.length
      · go_wp2_with fail
        refine (Hso.out _ _ _ Hr1.out hBr).mono ?_
        rintro e w2 ⟨rfl, hb2⟩
        have hb3 := Hb0.out.trans (hb2.mono Hb0.out.size)
        have Hb3 := Lib.hid hb3
        have Hown3 := Lib.hid (own_below Hown0.out hb2)
        clear hb2 hb3
        go_wp2
        go_ret
        exact ⟨_, rfl, by rw [Hf.out]; exact Hown3.out, Hb3.out⟩
      · go_wp2
        go_ret
        exact ⟨_, rfl, by rw [Hf.out]; exact Hown0.out, Hb0.out⟩
  | true =>
    have hn6 := storyOk_len hok
    have Hf := Lib.hid (needL_yes hok)
    have Htab := Lib.hid (fun B v w h hB => specStoryTab p qs hok B v w h hB)
    have hwt : ∀ k B v w h hB, Calls Try.prog 49 #[.int .i64 p, v] w fun e w' => e = .returned (.int .i64 (storyN p (woL (qs.map (·.2)) k))) ∧ Below w.heap.size w w' := fun k B v w (h : RdStory w B v (woL qs k)) hB => by
      rw [← woL_map]
      exact specStoryTab p (woL qs k) (by rw [woL_map]; exact woL_ok hok) B v w h hB
    have Hwt := Lib.hid hwt
    have hlq : (qs.map (·.2)).length = qs.length := List.length_map _
    rw [hlq] at Hf
    rw [hok] at hso
    have Hso := Lib.hid hso; clear hso hok hwt hlq
    have Hsu := Lib.hid (needF_succ p (qs.map (·.2)))
    have Hnb : Hid (∀ k, needB p (qs.map (·.2)) k = decide (storyN p (woL (qs.map (·.2)) k) = storyN p (qs.map (·.2)))) := fun k => rfl
    have Hwi := Lib.hid (fun k hk w h hB => specWithout qs k hk (by omega) B (.slice ao qs.length cap) w h hB)
    have Hmk := Lib.hid Hr.out.marks
    generalize qs.map (·.2) = s at *
    generalize hn : qs.length = n at *
    have Hn := Lib.hid hn; clear hn
    go_enter Try.func31, Try.ntmps31
    go_wp2
    go_loopw [5, 6] (fun u i wr => ∃ k : Nat, k ≤ n ∧ i = .int .i64 k ∧ wr.ownsRow wo.heap.size 3 1 u (needF p s k).length (vals (needF p s k)) ∧ Below wo.heap.size wo wr) (fun _ i _ => n - (intOf i).toNat)
    case atStart => exact ⟨0, Nat.zero_le _, rfl, Hown0.out, Hb0.out⟩
    case round =>
      obtain ⟨k, hk, rfl, hown, hbr⟩ := hrel
      have Hown := Lib.hid hown
      have Hbr := Lib.hid hbr
      have hsr := hbr.size
      have Hr1 := Lib.hid (Hr.out.below (w' := wr) (fun q hq => hbr.block q (by omega)))
      clear hown hbr
      by_cases hlt : k < n
      · have hnl := needF_len p s k
        have hsu := Hsu.out k
        have hnb := Hnb.out k
        go_wp2_with fail
        refine (Hso.out _ _ _ Hr1.out (by omega)).mono ?_
        rintro e w2 ⟨rfl, hb2⟩
        have hs2 := hb2.size
        have Hb2 := Lib.hid hb2
        have Hr2 := Lib.hid (Hr1.out.below (w' := w2) (fun q hq => hb2.block q (by omega)))
        have Hown2 := Lib.hid (own_below Hown.out hb2)
        clear hb2
        go_wp2_with fail
        refine (Hwi.out k hlt _ Hr2.out (by omega)).mono ?_
        rintro e w3 ⟨u3, rfl, hown3, hb3⟩
        have hs3 := hb3.size
        have Hb3 := Lib.hid (Hb2.out.trans (hb3.mono Hb2.out.size))
        have Hr3 := Lib.hid (Hr2.out.below (w' := w3) (fun q hq => hb3.block q (by omega)))
        have Hown3 := Lib.hid (own_below Hown2.out hb3)
        have Hw3 : Hid (RdStory w3 w3.heap.size u3 (woL qs k)) := rdStory_own hown3 (by rw [woL_len (by rw [Hn.out]; exact hlt), Hn.out]) (fun q hq => ⟨(Hr3.out.marks q (woL_mem hq)).1.mono (by omega), (Hr3.out.marks q (woL_mem hq)).2⟩)
        clear hb3 hown3
        go_wp2_with fail
        refine (Hwt.out k _ _ _ Hw3.out (Nat.le_refl _)).mono ?_
        rintro e w4 ⟨rfl, hb4⟩
        have hs4 := hb4.size
        have Hb4 := Lib.hid (Hb3.out.trans (hb4.mono Hb3.out.size))
        have Hr4 := Lib.hid (Hr3.out.below (w' := w4) (fun q hq => hb4.block q (by omega)))
        have Hown4 := Lib.hid (own_below Hown3.out hb4)
        clear hb4
        go_wp2_with fail
        refine (Htab.out _ _ _ Hr4.out (by omega)).mono ?_
        rintro e w5 ⟨rfl, hb5⟩
        have hs5 := hb5.size
        have Hb5 := Lib.hid (Hbr.out.trans ((Hb4.out.trans (hb5.mono Hb4.out.size)).mono hsr))
        have Hown5 := Lib.hid (own_below Hown4.out hb5)
        clear hb5
        generalize storyN p (woL s k) = T1 at *
        generalize storyN p s = T2 at *
        generalize needB p s k = nb at *
        by_cases he : T1 = T2
        · subst he
          rw [decide_eq_true rfl] at hnb
          subst hnb
          rw [if_pos rfl] at hsu
          have Hsu1 := Lib.hid hsu
          clear hsu
          go_wp2_with (at_builtin; refine wpList_append_own _ rfl _ _ 36 rfl wo.heap.size 3 i0 (.int .i64 0) 1 8 Try.underlying36 Hi.out Hz0.out Hz1.out Hz2.out rfl (by decide) _ _ _ rfl (Hown5.out.alloc _) ⟨w5.heap.size, 0, none⟩ 1 1 [.int .i64 k] rfl rfl (news1 _ _ rfl _ _) (by simp [Value.oneCell']) (by unfold maxLen; omega) (by omega) (by simp; omega) ?_)
          intro v' w6 hown6 hgr6 _
          have Hb6 := Lib.hid (below_grown_row (Hb5.out.alloc (by omega) _) hgr6 (by simp; omega) (fun q hq => (Hown5.out.lt q hq).1))
          have Hown6 : Hid (w6.ownsRow wo.heap.size 3 1 v' (needF p s (k + 1)).length (vals (needF p s (k + 1)))) := by
            unfold Hid
            rw [Hsu1.out, List.length_append, show vals (needF p s k ++ [k]) = vals (needF p s k) ++ [.int .i64 k] by simp [vals]]
            exact hown6
          clear hown6 hgr6
          go_wp2
          go_roundw
          case rel => exact ⟨k + 1, by omega, by go_num, Hown6.out, Hb6.out⟩
          case measure => simp [intOf]; omega
        · rw [decide_eq_false he] at hnb
          subst hnb
          rw [if_neg (by simp), List.append_nil] at hsu
          have Hsu1 := Lib.hid hsu
          have hei : ¬ (T1 : Int) = T2 := by omega
          clear hsu
          go_wp2
          go_roundw
          case rel => exact ⟨k + 1, by omega, by go_num, by rw [Hsu1.out]; exact Hown5.out, Hb5.out⟩
          case measure => simp [intOf]; omega
      · obtain rfl : k = n := by omega
        go_wp2
        go_ret
        exact ⟨_, rfl, by rw [Hf.out]; exact Hown.out, Hbr.out⟩
end Go.Proofs.Ytncihjelpaiocaa

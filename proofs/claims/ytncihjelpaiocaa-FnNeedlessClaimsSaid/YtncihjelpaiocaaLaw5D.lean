/- A law of stage 5: a claim made twice is needless. It answers true, whatever the code. No condition. -/
import Derived.Test.YtncihjelpaiocaaDrawV
import Derived.Test.YtncihjelpaiocaaOneI
import Derived.Test.YtncihjelpaiocaaClaimI
import Derived.Test.YtncihjelpaiocaaOneU
import Derived.Test.YtncihjelpaiocaaClaimF
import Derived.Test.YtncihjelpaiocaaLawsA
import Derived.Deep.RegionHeld3
import Derived.Deep.Cut
import Derived.Test.YtncihjelpaiocaaOneA
namespace Go.Proofs.Ytncihjelpaiocaa
open Go.RowKit Go.Joins
theorem NeedI (p : Int) (qs : List QC) (B : Nat) (v : Value) (w : World) (hr : RdStory w B v qs) (hB : B ≤ w.heap.size) :
    Calls Try.prog 30 #[.int .i64 p, v] w fun e w' => ∃ u, e = .returned u ∧ w'.ownsRow w.heap.size 3 1 u (nums (needL p (qs.map (·.2)))).length (ints (nums (needL p (qs.map (·.2))))) ∧ Below w.heap.size w w' := by
  rw [nums_length, show ints (nums (needL p (qs.map (·.2)))) = vals (needL p (qs.map (·.2))) from (vals_nums _).symm]
  exact implNeedless p qs B v w hr hB
theorem NeedS (p : Int) (qs : List QC) (B : Nat) (v : Value) (w : World) (hr : RdStory w B v qs) (hB : B ≤ w.heap.size) :
    Calls Try.prog 31 #[.int .i64 p, v] w fun e w' => ∃ u, e = .returned u ∧ w'.ownsRow w.heap.size 3 1 u (nums (needL p (qs.map (·.2)))).length (ints (nums (needL p (qs.map (·.2))))) ∧ Below w.heap.size w w' := by
  rw [nums_length, show ints (nums (needL p (qs.map (·.2)))) = vals (needL p (qs.map (·.2))) from (vals_nums _).symm]
  exact specNeedless p qs B v w hr hB
theorem NeedM (p : Int) (qs : List QC) (c : QC) (B : Nat) (v : Value) (w : World) (hr : RdStory w B v (qs ++ [c])) (hB : B ≤ w.heap.size) :
    Calls Try.prog 30 #[.int .i64 p, v] w fun e w' => ∃ u, e = .returned u ∧ w'.ownsRow w.heap.size 3 1 u (nums (needL p (qs.map (·.2) ++ [c.2]))).length (ints (nums (needL p (qs.map (·.2) ++ [c.2])))) ∧ Below w.heap.size w w' := by
  have h := NeedI p (qs ++ [c]) B v w hr hB
  rw [map_more] at h
  exact h
theorem TabW (p : Int) (qs : List QC) (k : Nat) (hok : storyOk p (qs.map (·.2)) = true) (B : Nat) (v : Value) (w : World) (hr : RdStory w B v (woL qs k)) (hB : B ≤ w.heap.size) :
    Calls Try.prog 28 #[.int .i64 p, v] w fun e w' => e = .returned (.int .i64 (storyN p (woL (qs.map (·.2)) k))) ∧ Below w.heap.size w w' := by
  have h := implStoryTable p (woL qs k) B v w hr hB
  rw [woL_map, storyV_yes (woL_ok hok)] at h
  exact h
theorem needF_small (p : Int) (s : List Cl) (n j : Nat) (h : n ≤ 100) : (needF p s n).getD j 0 ≤ 100 := by
  rw [List.getD_eq_getElem?_getD]
  cases hx : (needF p s n)[j]? with
  | none => simp
  | some x =>
    have := (needF_mem.1 (List.mem_of_getElem? hx)).1
    simp; omega
theorem nums_asc {l : List Nat} (h : ∀ j, j + 1 < l.length → l.getD j 0 < l.getD (j + 1) 0) : ∀ j, j + 1 < (nums l).length → (nums l).getD j 0 < (nums l).getD (j + 1) 0 := by
  intro j hj
  rw [nums_length] at hj
  have h1 := h j hj
  have e : ∀ i, i < l.length → (nums l).getD i 0 = ((l.getD i 0 : Nat) : Int) := fun i hi => by simp [nums, List.getD, hi]
  rw [e j (by omega), e (j + 1) hj]
  exact_mod_cast h1
theorem nums_mem {l : List Nat} {k : Nat} : (k : Int) ∈ nums l ↔ k ∈ l := by
  unfold nums
  rw [List.mem_map]
  constructor
  · rintro ⟨a, ha, e⟩
    obtain rfl : a = k := by exact_mod_cast e
    exact ha
  · exact fun h => ⟨k, h, rfl⟩
theorem twice_mem {p : Int} {qs : List QC} (hok : storyOk p (qs.map (·.2)) = true) (h : 0 < qs.length) (h5 : qs.length ≤ 5) : (0 : Int) ∈ nums (needL p (qs.map (·.2) ++ [(qs.getD 0 qc0).2])) ∧ (qs.length : Int) ∈ nums (needL p (qs.map (·.2) ++ [(qs.getD 0 qc0).2])) := by
  have hl : (qs.map (·.2)).length = qs.length := List.length_map _
  have e : (qs.getD 0 qc0).2 = (qs.map (·.2))[0]'(by omega) := by
    rw [List.getElem_map]
    simp [List.getD, h]
  rw [e]
  obtain ⟨h1, h2, h3⟩ := storyOk_iff.1 hok
  have hok2 : storyOk p (qs.map (·.2) ++ [(qs.map (·.2))[0]'(by omega)]) = true := storyOk_iff.2 ⟨fun c hc => by
    rcases List.mem_append.1 hc with hc | hc
    · exact h1 c hc
    · simp at hc; rw [hc]; exact h1 _ (List.mem_map.2 ⟨_, List.getElem_mem _, rfl⟩), h2, by simp; omega⟩
  obtain ⟨n1, n2⟩ := need_twice (p := p) (s := qs.map (·.2)) (by omega)
  rw [needL_yes hok2]
  refine ⟨?_, ?_⟩
  · have : (0 : Nat) ∈ needF p (qs.map (·.2) ++ [(qs.map (·.2))[0]'(by omega)]) (qs.map (·.2) ++ [(qs.map (·.2))[0]'(by omega)]).length := needF_mem.2 ⟨by simp, n1⟩
    exact nums_mem.2 this
  · have : qs.length ∈ needF p (qs.map (·.2) ++ [(qs.map (·.2))[0]'(by omega)]) (qs.map (·.2) ++ [(qs.map (·.2))[0]'(by omega)]).length := needF_mem.2 ⟨by simp, by rw [← hl]; exact n2⟩
    exact nums_mem.2 this
end Go.Proofs.Ytncihjelpaiocaa
namespace Go.Proofs.Ytncihjelpaiocaa.fnNeedlessClaims
open Go.ChangeShapes Go.WideShapes Go.ChangeAt Go.RowKit Go.Joins
attribute [local irreducible] holds tabN tabV holdsV sameV followsV alwaysV matterV mirV mirOk mcells tmOf claimOk mayT mayV ctabV ctabN storyV storyOk storyN storyT ctermV ctermL denyV denyOk ccells clashV onlyOk onlyN knownF knownL knownK cntK swl needB needF needL leastR leastV woL
open Go.ChangeMaps (open_string shut_string)
set_option linter.unusedVariables false
set_option maxRecDepth 100000 in
set_option maxHeartbeats 8000000 in
theorem walk (a0 : Value) (n0 : Nat) (w : World) (w0 : RdBytes w w.heap.size a0 n0) :
    Calls Try.prog 6 #[a0] w fun e w' => e = .returned (.bool true) ∧ Below w.heap.size w w' := by
  have hr := w0
  by_cases hbig : n0 ≤ 1048576
  case neg =>
    obtain ⟨ao, cap, rfl, hl, hm, hc⟩ := w0
    have hbig' := code_big hbig
    unfold maxLen at hm
    clear hc hr hbig
    go_enter Try.func6, Try.ntmps6
    go_wp2
    go_ret
    exact ⟨rfl, Below.refl _ _⟩
  have hbig' : (n0 : Int) ≤ 1048576 := by omega
  clear hbig
  obtain ⟨ao, cap, rfl, hl, hm, hc⟩ := w0
  have Hr := Lib.hid hr
  clear hc hr hl hm
  go_enter Try.func6, Try.ntmps6
  go_wp2_with fail
  refine (drawNeedlessClaims _ _ _ Hr.out).mono ?_
  rintro e w1 ⟨p, v, qs, hp4', hp8, rfl, hst, hqs, hq7, hB1⟩
  have HS1 := Lib.hid hst
  obtain ⟨vo, vc, hvf⟩ := own_len hst.1
  subst hvf
  have hvc : qs.length ≤ vc := by
    rcases hst.1.2 with ⟨h0, hz⟩ | ⟨g', cap', cur, h0, _, _, h1, _⟩
    · injection h0 with _ h2 h3; omega
    · injection h0 with _ h2 h3; omega
  clear hst
  have HQ_1 := HS1
  obtain ⟨ic, hci, hcz0, hcz1, hcz2⟩ := info_parts Try.infoC
  have Ci := Lib.hid hci; clear hci
  have Cz0 := Lib.hid hcz0; clear hcz0
  have Cz1 := Lib.hid hcz1; clear hcz1
  have Cz2 := Lib.hid hcz2; clear hcz2
  have Hin := Lib.hid (fun B u W h h2 => NeedI p qs B u W h h2)
  have Hsn := Lib.hid (fun B u W h h2 => NeedS p qs B u W h h2)
  have Hso := Lib.hid (fun B u W h h2 => specStoryOk p qs B u W h h2)
  cases hok : storyOk p (qs.map (·.2)) with
  | false =>
    rw [needL_no hok] at Hin Hsn
    rw [hok] at Hso
    obtain ⟨zs, hzs⟩ : ∃ zs : List Int, zs = nums [] := ⟨_, rfl⟩
    rw [← hzs] at Hin Hsn
    have hz0 : zs.length = 0 := by rw [hzs]; rfl
    generalize hzn : zs.length = zn at *
    have Hzl := Lib.hid hzn
    subst hz0
    clear hok hvc hzs hzn
    go_wp2_with fail
    refine (Hin.out _ _ _ HQ_1.out.rd (Nat.le_refl _)).mono ?_
    rintro e w2 ⟨u2, rfl, hown2, hb2⟩
    obtain ⟨a2, c2, hv2⟩ := own_len hown2
    subst hv2
    have HU_2 := Lib.hid hown2
    clear hown2
    have HQ_2 := Lib.hid (HQ_1.out.below hb2)
    have hs2 := hb2.size
    have hB2 : Below w.heap.size w w2 := hB1.trans (hb2.mono hB1.size)
    clear hb2
    go_wp2_with fail
    refine (Hsn.out _ _ _ HQ_2.out.rd (Nat.le_refl _)).mono ?_
    rintro e w3 ⟨u3, rfl, hown3, hb3⟩
    have HU_3 := Lib.hid (own_below HU_2.out hb3)
    have HV_3 := Lib.hid hown3
    clear hown3
    have HQ_3 := Lib.hid (HQ_2.out.below hb3)
    have hs3 := hb3.size
    have hB3 : Below w.heap.size w w3 := hB2.trans (hb3.mono hB2.size)
    clear hb3
    go_wp2_with fail
    refine (sameInts zs zs _ _ _ _ _ (RdInts.of_own (by rw [Hzl.out]; exact HU_3.out)) (RdInts.of_own (by rw [Hzl.out]; exact HV_3.out))).mono ?_
    rintro e w4 ⟨rfl, n4, rfl⟩
    rw [show decide (zs = zs) = true from by simp]
    have hb4 : Below w3.heap.size w3 (w3.drewN n4) := below_drewN (Below.refl _ _) n4
    obtain ⟨w4, hw4⟩ : ∃ W, W = w3.drewN n4 := ⟨_, rfl⟩
    rw [← hw4] at hb4 ⊢
    have HU_4 := Lib.hid (own_below HU_3.out hb4)
    clear hw4
    have HQ_4 := Lib.hid (HQ_3.out.below hb4)
    have hs4 := hb4.size
    have hB4 : Below w.heap.size w w4 := hB3.trans (hb4.mono hB3.size)
    clear hb4
    go_wp2_with fail
    refine (Hso.out _ _ _ HQ_4.out.rd (Nat.le_refl _)).mono ?_
    rintro e w5 ⟨rfl, hb5⟩
    have HU_5 := Lib.hid (own_below HU_4.out hb5)
    have HQ_5 := Lib.hid (HQ_4.out.below hb5)
    have hs5 := hb5.size
    have hB5 : Below w.heap.size w w5 := hB4.trans (hb5.mono hB4.size)
    clear hb5
    go_wp2_with fail
    refine (alive _).mono ?_
    rintro e w' ⟨rfl, rfl⟩
    go_wp2
    go_ret
    exact ⟨rfl, hB5⟩
  | true =>
  have hn6 := storyOk_len hok
  have hno : ∀ j, (needF p (qs.map (·.2)) qs.length).getD j 0 ≤ 100 := fun j => needF_small p (qs.map (·.2)) qs.length j (by omega)
  have hasc := nums_asc (needF_asc p (qs.map (·.2)) qs.length)
  have Hasc : Hid (∀ j, j + 1 < (nums (needL p (qs.map (·.2)))).length → (nums (needL p (qs.map (·.2)))).getD j 0 < (nums (needL p (qs.map (·.2)))).getD (j + 1) 0) := by
    unfold Hid
    rw [needL_yes hok, List.length_map]
    exact hasc
  have Hmem : Hid (∀ k, k < qs.length → decide ((k : Int) ∈ nums (needL p (qs.map (·.2)))) = decide (storyN p (woL (qs.map (·.2)) k) = storyN p (qs.map (·.2)))) := fun k hk => by
    rw [decide_eq_decide, nums_mem, needL_yes hok, List.length_map, needF_mem]
    unfold needB
    simp [hk]
  have Htw := Lib.hid (fun k B u W h h2 => TabW p qs k hok B u W h h2)
  have Htq := Lib.hid (fun B u W h h2 => implStoryTable p qs B u W h h2)
  rw [storyV_yes hok] at Htq
  have Hn2 := Lib.hid (fun (c : QC) B u W h h2 => NeedM p qs c B u W h h2)
  have Htwice : Hid (∀ h : 0 < qs.length, qs.length ≤ 5 → (0 : Int) ∈ nums (needL p (qs.map (·.2) ++ [(qs.getD 0 qc0).2])) ∧ (qs.length : Int) ∈ nums (needL p (qs.map (·.2) ++ [(qs.getD 0 qc0).2]))) := fun h h5 => twice_mem hok h h5
  have HWo := Lib.hid (fun k => woL_take_drop qs k)
  rw [hok] at Hso
  clear hok hvc hno hasc
  generalize nums (needL p (qs.map (·.2))) = zs at *
  generalize hzn : zs.length = zn at *
  have Hzl := Lib.hid hzn
  clear hzn
  go_wp2_with fail
  refine (Hin.out _ _ _ HQ_1.out.rd (Nat.le_refl _)).mono ?_
  rintro e w2 ⟨u2, rfl, hown2, hb2⟩
  obtain ⟨a2, c2, hv2⟩ := own_len hown2
  subst hv2
  have HU_2 := Lib.hid hown2
  clear hown2
  have HQ_2 := Lib.hid (HQ_1.out.below hb2)
  have hs2 := hb2.size
  have hB2 : Below w.heap.size w w2 := hB1.trans (hb2.mono hB1.size)
  clear hb2
  go_wp2_with fail
  refine (Hsn.out _ _ _ HQ_2.out.rd (Nat.le_refl _)).mono ?_
  rintro e w3 ⟨u3, rfl, hown3, hb3⟩
  have HU_3 := Lib.hid (own_below HU_2.out hb3)
  have HV_3 := Lib.hid hown3
  clear hown3
  have HQ_3 := Lib.hid (HQ_2.out.below hb3)
  have hs3 := hb3.size
  have hB3 : Below w.heap.size w w3 := hB2.trans (hb3.mono hB2.size)
  clear hb3
  go_wp2_with fail
  refine (sameInts zs zs _ _ _ _ _ (RdInts.of_own (by rw [Hzl.out]; exact HU_3.out)) (RdInts.of_own (by rw [Hzl.out]; exact HV_3.out))).mono ?_
  rintro e w4 ⟨rfl, n4, rfl⟩
  rw [show decide (zs = zs) = true from by simp]
  have hb4 : Below w3.heap.size w3 (w3.drewN n4) := below_drewN (Below.refl _ _) n4
  obtain ⟨w4, hw4⟩ : ∃ W, W = w3.drewN n4 := ⟨_, rfl⟩
  rw [← hw4] at hb4 ⊢
  have HU_4 := Lib.hid (own_below HU_3.out hb4)
  clear hw4
  have HQ_4 := Lib.hid (HQ_3.out.below hb4)
  have hs4 := hb4.size
  have hB4 : Below w.heap.size w w4 := hB3.trans (hb4.mono hB3.size)
  clear hb4
  go_wp2_with fail
  refine (Hso.out _ _ _ HQ_4.out.rd (Nat.le_refl _)).mono ?_
  rintro e w5 ⟨rfl, hb5⟩
  have HU_5 := Lib.hid (own_below HU_4.out hb5)
  have HQ_5 := Lib.hid (HQ_4.out.below hb5)
  have hs5 := hb5.size
  have hB5 : Below w.heap.size w w5 := hB4.trans (hb5.mono hB4.size)
  clear hb5
  have hz5 := Lib.hid (RdInts.of_own (by rw [Hzl.out]; exact HU_5.out))
  go_wp2
  go_loopw [6, 7] (fun i _ wr => ∃ k : Nat, k ≤ qs.length ∧ i = .int .i64 k ∧ Below w5.heap.size w5 wr) (fun i _ _ => qs.length - (intOf i).toNat)
  case atStart => exact ⟨0, Nat.zero_le _, rfl, Below.refl _ _⟩
  case round =>
    obtain ⟨k, hk, rfl, hbr⟩ := hrel
    have HQr := Lib.hid (HQ_5.out.below hbr)
    have hsr := hbr.size
    have Hbr := Lib.hid hbr
    have Hzr := Lib.hid ((hz5.out.below (w' := wr) hbr.block).mono hsr)
    clear hbr
    by_cases hlt : k < qs.length
    · obtain ⟨ao', cap', hv', hal, ham, hgt⟩ := HQr.out.rd.len
      obtain ⟨b, off, hao, hb⟩ := hgt (by omega)
      have hvo : vo = some ⟨b, off, none⟩ ∧ vc = cap' := by
        injection hv' with hv1 hv2 hv3
        rw [hv1, hao]
        exact ⟨rfl, hv3⟩
      obtain ⟨hvo1, hvo2⟩ := hvo
      subst hvo1
      subst hvo2
      unfold maxLen at ham
      have Hrd := Lib.hid HQr.out.rd
      have Hpre := Lib.hid (Hrd.out.pre (k := k) (by omega))
      have Hpost := Lib.hid (Hrd.out.post (k := k + 1) (by omega))
      have Hone1 := Lib.hid Hpre.out.one
      have Hone2 := Lib.hid Hpost.out.one
      have Hl1 : Hid ((ccells (qs.take k)).length = k * 2) := by unfold Hid; rw [ccells_length, List.length_take]; omega
      have Hl2 : Hid ((ccells (qs.drop (k + 1))).length = (qs.length - (k + 1)) * 2) := by unfold Hid; rw [ccells_length, List.length_drop]
      have Hwo := Lib.hid (HWo.out k)
      have hown0 : (wr.alloc (.cells #[] TC)).ownsRow wr.heap.size TC 2 (.slice (some ⟨wr.heap.size, 0, none⟩) 0 0) 0 [] := World.ownsRow_made _ _ 0 (Nat.le_refl _) (by unfold maxLen; omega) rfl
      have hb0 : Below wr.heap.size wr (wr.alloc (.cells #[] TC)) := (Below.refl _ _).alloc (Nat.le_refl _) _
      have Hown0 := Lib.hid hown0
      have Hb0 := Lib.hid hb0
      have Hc1 := Lib.hid (Hpre.out.cells_at (w' := wr.alloc (.cells #[] TC)) (fun q hq => hb0.block q (by omega)))
      have Hmk := Lib.hid (Hmem.out k hlt)
      have Htw' := Lib.hid (Htw.out k)
      have hlw := woL_len hlt
      have Hlw := Lib.hid hlw
      clear hown0 hb0 hv' hao hgt hlw
      generalize storyN p (woL (qs.map (·.2)) k) = T1 at *
      generalize storyN p (qs.map (·.2)) = T2 at *
      generalize ccells (qs.take k) = C1 at *
      generalize hC2 : ccells (qs.drop (k + 1)) = C2 at *
      have HC2 := Lib.hid hC2; clear hC2
      by_cases hcap : k + 1 = vc
      · have Hz2 : Hid (C2 = []) := List.eq_nil_of_length_eq_zero (by rw [Hl2.out]; omega)
        subst hcap
        have Hn1 : Hid (qs.length = k + 1) := by unfold Hid; omega
        have hki : (k : Int) < (qs.length : Int) := by omega
        go_wp2_with (first
          | (at_builtin; refine wpList_append_own _ rfl (.tmp 42) (.tmp 45) 23 rfl wr.heap.size TC ic (.agg #[.int .i64 0, .slice none 0 0]) 2 32 Try.underlying23 Ci.out Cz0.out Cz1.out Cz2.out rfl (by decide) _ 0 [] rfl Hown0.out ⟨b, off, none⟩ k (k + 1) C1 rfl Hl1.out Hc1.out Hone1.out (by unfold maxLen; omega) (by omega) (by simp) ?_; intro v6 w6 hown6 hgr6 _
             have Hb6 := Lib.hid (below_grown_row Hb0.out hgr6 (by simp) (fun q hq => (Hown0.out.lt q hq).1))
             have Hs6 := Hb6.out.size
             have Hc6 := Lib.hid (Hpost.out.cells_at (w' := w6) (fun q hq => Hb6.out.block q (by omega)))
             rw [HC2.out] at Hc6
             have Hown6 := Lib.hid hown6
             clear hown6 hgr6)
          | (at_builtin; refine wpList_append_own _ rfl (.tmp 47) (.tmp 51) 23 rfl wr.heap.size TC ic (.agg #[.int .i64 0, .slice none 0 0]) 2 32 Try.underlying23 Ci.out Cz0.out Cz1.out Cz2.out rfl (by decide) _ _ _ rfl Hown6.out ⟨b, off, none⟩ 0 0 [] rfl rfl (fun j u hj => by simp at hj) (by simp) (by unfold maxLen; omega) (by omega) (by omega) ?_
             go_must (intro v7 w7 hown7 hgr7 _
                      have hb7 := below_grown_row Hb6.out hgr7 Hs6 (fun q hq => (Hown6.out.lt q hq).1)
                      have hs7 := hb7.size
                      have Hb7 := Lib.hid hb7
                      have hst7 := HQr.out.rd.below (w' := w7) hb7.block
                      have HW7 : Hid (RdStory w7 w7.heap.size v7 (woL qs k)) := rdStory_own (by
                        rw [Hwo.out]
                        rw [List.nil_append, show 0 + k + 0 = qs.length - 1 by have := Hn1.out; omega] at hown7
                        rw [Hz2.out]; exact hown7) Hlw.out.symm (fun q hq => ⟨(hst7.marks q (woL_mem hq)).1.mono hs7, (hst7.marks q (woL_mem hq)).2⟩)
                      clear hown7 hgr7 hb7 hst7))
          | fail)
        refine (Htw'.out _ _ _ HW7.out (Nat.le_refl _)).mono ?_
        rintro e w8 ⟨rfl, hb8⟩
        have Hb8 := Lib.hid (Hb7.out.trans (hb8.mono hs7))
        have hs8 := Hb8.out.size
        clear hb8
        go_wp2_with fail
        refine (Htq.out _ _ _ ((Hrd.out.below (w' := w8) Hb8.out.block).mono hs8) (Nat.le_refl _)).mono ?_
        rintro e w9 ⟨rfl, hb9⟩
        have Hb9 := Lib.hid (Hb8.out.trans (hb9.mono hs8))
        have hs9 := Hb9.out.size
        clear hb9
        go_wp2_with fail
        refine (hasInt zs k _ _ _ (Hzr.out.below (w' := w9) Hb9.out.block)).mono ?_
        rintro e w10 ⟨rfl, rfl⟩
        rw [Hmk.out]
        have HB9 := Lib.hid (Hbr.out.trans (Hb9.out.mono hsr))
        by_cases he : T1 = T2
        · subst he
          rw [decide_eq_true rfl]
          go_wp2
          go_roundw
          case rel => exact ⟨k + 1, by omega, by go_num, HB9.out⟩
          case measure => simp [intOf]; omega
        · rw [decide_eq_false he]
          have hei : ¬ (T1 : Int) = T2 := by omega
          go_wp2
          go_roundw
          case rel => exact ⟨k + 1, by omega, by go_num, HB9.out⟩
          case measure => simp [intOf]; omega
      · have hlt2 : k + 1 < vc := by omega
        have hci : ¬ ((k : Int) + 1 = vc) := by omega
        go_wp2_with (first
          | (at_builtin; refine wpList_append_own _ rfl (.tmp 42) (.tmp 45) 23 rfl wr.heap.size TC ic (.agg #[.int .i64 0, .slice none 0 0]) 2 32 Try.underlying23 Ci.out Cz0.out Cz1.out Cz2.out rfl (by decide) _ 0 [] rfl Hown0.out ⟨b, off, none⟩ k vc C1 rfl Hl1.out Hc1.out Hone1.out (by unfold maxLen; omega) (by omega) (by simp) ?_; intro v6 w6 hown6 hgr6 _
             have Hb6 := Lib.hid (below_grown_row Hb0.out hgr6 (by simp) (fun q hq => (Hown0.out.lt q hq).1))
             have Hs6 := Hb6.out.size
             have Hc6 := Lib.hid (Hpost.out.cells_at (w' := w6) (fun q hq => Hb6.out.block q (by omega)))
             rw [HC2.out] at Hc6
             have Hown6 := Lib.hid hown6
             clear hown6 hgr6)
          | (at_builtin; refine wpList_append_own _ rfl (.tmp 47) (.tmp 51) 23 rfl wr.heap.size TC ic (.agg #[.int .i64 0, .slice none 0 0]) 2 32 Try.underlying23 Ci.out Cz0.out Cz1.out Cz2.out rfl (by decide) _ _ _ rfl Hown6.out ⟨b, off + (k + 1) * 2, none⟩ (qs.length - (k + 1)) (vc - (k + 1)) C2 rfl Hl2.out Hc6.out Hone2.out (by unfold maxLen; omega) (by omega) (by omega) ?_
             go_must (intro v7 w7 hown7 hgr7 _
                      have hb7 := below_grown_row Hb6.out hgr7 Hs6 (fun q hq => (Hown6.out.lt q hq).1)
                      have hs7 := hb7.size
                      have Hb7 := Lib.hid hb7
                      have hst7 := HQr.out.rd.below (w' := w7) hb7.block
                      have HW7 : Hid (RdStory w7 w7.heap.size v7 (woL qs k)) := rdStory_own (by
                        rw [Hwo.out]
                        rw [List.nil_append, show 0 + k + (qs.length - (k + 1)) = qs.length - 1 by omega] at hown7
                        exact hown7) Hlw.out.symm (fun q hq => ⟨(hst7.marks q (woL_mem hq)).1.mono hs7, (hst7.marks q (woL_mem hq)).2⟩)
                      clear hown7 hgr7 hb7 hst7))
          | fail)
        refine (Htw'.out _ _ _ HW7.out (Nat.le_refl _)).mono ?_
        rintro e w8 ⟨rfl, hb8⟩
        have Hb8 := Lib.hid (Hb7.out.trans (hb8.mono hs7))
        have hs8 := Hb8.out.size
        clear hb8
        go_wp2_with fail
        refine (Htq.out _ _ _ ((Hrd.out.below (w' := w8) Hb8.out.block).mono hs8) (Nat.le_refl _)).mono ?_
        rintro e w9 ⟨rfl, hb9⟩
        have Hb9 := Lib.hid (Hb8.out.trans (hb9.mono hs8))
        have hs9 := Hb9.out.size
        clear hb9
        go_wp2_with fail
        refine (hasInt zs k _ _ _ (Hzr.out.below (w' := w9) Hb9.out.block)).mono ?_
        rintro e w10 ⟨rfl, rfl⟩
        rw [Hmk.out]
        have HB9 := Lib.hid (Hbr.out.trans (Hb9.out.mono hsr))
        by_cases he : T1 = T2
        · subst he
          rw [decide_eq_true rfl]
          go_wp2
          go_roundw
          case rel => exact ⟨k + 1, by omega, by go_num, HB9.out⟩
          case measure => simp [intOf]; omega
        · rw [decide_eq_false he]
          have hei : ¬ (T1 : Int) = T2 := by omega
          go_wp2
          go_roundw
          case rel => exact ⟨k + 1, by omega, by go_num, HB9.out⟩
          case measure => simp [intOf]; omega
    · obtain rfl : k = qs.length := by omega
      have hB6 : Below w.heap.size w wr := hB5.trans (Hbr.out.mono hB5.size)
      by_cases h0 : qs.length = 0
      · have h0i : (qs.length : Int) = 0 := by omega
        go_wp2_with fail
        refine (ascend_yes zs _ _ _ Hzr.out (fun j hj => Hasc.out j (by have := Hzl.out; omega))).mono ?_
        rintro e w9 ⟨rfl, n9, rfl⟩
        go_wp2_with fail
        refine (alive _).mono ?_
        rintro e w' ⟨rfl, rfl⟩
        go_wp2
        go_ret
        exact ⟨rfl, below_drewN hB6 _⟩
      by_cases h6 : 6 ≤ qs.length
      · have h6i : (6 : Int) ≤ (qs.length : Int) := by omega
        have h0i : ¬ (qs.length : Int) = 0 := by omega
        go_wp2_with fail
        refine (ascend_yes zs _ _ _ Hzr.out (fun j hj => Hasc.out j (by have := Hzl.out; omega))).mono ?_
        rintro e w9 ⟨rfl, n9, rfl⟩
        go_wp2_with fail
        refine (alive _).mono ?_
        rintro e w' ⟨rfl, rfl⟩
        go_wp2
        go_ret
        exact ⟨rfl, below_drewN hB6 _⟩
      have h6i : ¬ (6 : Int) ≤ (qs.length : Int) := by omega
      have h0i : ¬ (qs.length : Int) = 0 := by omega
      have hpos : 0 < qs.length := by omega
      have hposi : (0 : Int) < (qs.length : Int) := by omega
      obtain ⟨ht1, ht2⟩ := Htwice.out (by omega) (by omega)
      obtain ⟨ao', cap', hv', hal, ham, _, hac⟩ := HQr.out.rd
      obtain ⟨b, off, hao, hb, hc1, hc2⟩ := hac 0 (by omega)
      have hvo : vo = some ⟨b, off, none⟩ := by
        injection hv' with hv1 hv2 hv3
        rw [hv1, hao]
      subst hvo
      have hz := HQr.out.rd.get (j := 0) (by omega)
      have Hn3 := Lib.hid (Hn2.out (qs.getD 0 qc0))
      have hcv : qs.length ≤ vc := by
        injection hv' with _ _ h3
        omega
      clear hac hal ham hv' hao Hn2 Htwice
      rw [show off + 0 * 2 = off by omega] at hc1
      rw [show off + 0 * 2 + 1 = off + 1 by omega] at hc2
      generalize qs.getD 0 qc0 = c0 at *
      generalize nums (needL p (qs.map (·.2) ++ [c0.2])) = z2 at *
      generalize hzm : z2.length = zm at *
      have Hzm := Lib.hid hzm
      have Ht1 := Lib.hid ht1
      have Ht2 := Lib.hid ht2
      obtain ⟨uc, kc, mc⟩ := c0
      dsimp only at hc1 hc2 hz
      have Hz := Lib.hid hz
      have hone : uc.oneCell' = true := by
        obtain ⟨a, c, hv, _⟩ := hz.1
        rw [hv]; rfl
      clear hz hzm ht1 ht2
      go_wp2_with fail
      go_cut [8] from 9 (fun v wq => ∃ a c, v = .slice a zm c ∧ wq.ownsRow wr.heap.size 3 1 v zm (ints z2) ∧ Below wr.heap.size wr wq)
      case first =>
        go_region_held3 (fun w' => w'.cell? ⟨b, off, none⟩ = some (.int .i64 kc) ∧ w'.cell? ⟨b, off + 1, none⟩ = some uc)
          (first | (refine ⟨?_, ?_⟩ <;> first | go_keep | assumption) | assumption)
          (first
            | (refine app_keepS (by rfl) (.tmp 78) (.tmp 79) (by rfl) Ci.out Cz0.out Cz1.out Cz2.out (by first | exact HaveS.start wr (ccells [(uc, (kc, mc))]) | exact (HaveS.start wr (ccells [(uc, (kc, mc))])).drew | exact (HaveS.start wr (ccells [(uc, (kc, mc))])).drewN _) (by rfl) (by rfl) HQr.out.rd (Nat.le_refl _) ?_ ?_
               go_must (omega)
               go_must (intro v1 wa hh
                        have n0wa := ((hh.1).cell_far ⟨b, off, none⟩ hb (by simp)).trans hc1
                        have n1wa := ((hh.1).cell_far ⟨b, off + 1, none⟩ hb (by simp)).trans hc2
                        have hzwa := hh.1.size
                        have H1 := Lib.hid hh; clear hh))
            | (refine app_keepS (by rfl) (.tmp 78) (.tmp 79) (by rfl) Ci.out Cz0.out Cz1.out Cz2.out (by first | exact HaveS.laid_next wr (ccells [(uc, (kc, mc))]) _ (newsC _ _ rfl _ _ _ _) | exact (HaveS.laid_next wr (ccells [(uc, (kc, mc))]) _ (newsC _ _ rfl _ _ _ _)).drew | exact (HaveS.laid_next wr (ccells [(uc, (kc, mc))]) _ (newsC _ _ rfl _ _ _ _)).drewN _) (by rfl) (by rfl) HQr.out.rd (Nat.le_refl _) ?_ ?_
               go_must (omega)
               go_must (intro v1 wa hh
                        have n0wa := ((hh.1).cell_far ⟨b, off, none⟩ hb (by simp)).trans hc1
                        have n1wa := ((hh.1).cell_far ⟨b, off + 1, none⟩ hb (by simp)).trans hc2
                        have hzwa := hh.1.size
                        have H1 := Lib.hid hh; clear hh))
            | (refine app_keepS (by rfl) (.tmp 78) (.tmp 79) (by rfl) Ci.out Cz0.out Cz1.out Cz2.out (by first | exact HaveS.laid_first wr (ccells [(uc, (kc, mc))]) _ (newsC _ _ rfl _ _ _ _) | exact (HaveS.laid_first wr (ccells [(uc, (kc, mc))]) _ (newsC _ _ rfl _ _ _ _)).drew | exact (HaveS.laid_first wr (ccells [(uc, (kc, mc))]) _ (newsC _ _ rfl _ _ _ _)).drewN _) (by rfl) (by rfl) HQr.out.rd (Nat.le_refl _) ?_ ?_
               go_must (omega)
               go_must (intro v1 wa hh
                        have n0wa := ((hh.1).cell_far ⟨b, off, none⟩ hb (by simp)).trans hc1
                        have n1wa := ((hh.1).cell_far ⟨b, off + 1, none⟩ hb (by simp)).trans hc2
                        have hzwa := hh.1.size
                        have H1 := Lib.hid hh; clear hh))
            | (refine app_lastS (by rfl) (.tmp 80) (.tmp 84) (by rfl) Ci.out Cz0.out Cz1.out Cz2.out (q := (uc, (kc, mc))) (by first | exact H1.out | exact (H1.out).drew | exact (H1.out).drewN _) (by rfl) (by rfl) hone ?_ ?_
               go_must (omega)
               go_must (intro v3 wc hg ho
                        have n0wc := ((hg).cell_far ⟨b, off, none⟩ hb (by simp)).trans hc1
                        have n1wc := ((hg).cell_far ⟨b, off + 1, none⟩ hb (by simp)).trans hc2
                        have hbn := below_none hg
                        have hsc := hbn.size
                        have hbc : b < wc.heap.size := by omega
                        simp only [Nat.zero_add, List.nil_append] at ho
                        have HR := Lib.hid (rdStory_more (q := (uc, (kc, mc))) HQr.out.rd hbn ⟨(Hz.out.1.below (w' := wc) hbn.block).mono hsc, Hz.out.2⟩ ho)
                        have HBc := Lib.hid hbn
                        clear hg ho hbn))
            | (refine app_lastS (by rfl) (.tmp 80) (.tmp 84) (by rfl) Ci.out Cz0.out Cz1.out Cz2.out (q := (uc, (kc, mc))) (by first | exact H1.out.lay _ (newsC _ _ rfl _ _ _ _) | exact (H1.out.lay _ (newsC _ _ rfl _ _ _ _)).drew | exact (H1.out.lay _ (newsC _ _ rfl _ _ _ _)).drewN _) (by rfl) (by rfl) hone ?_ ?_
               go_must (omega)
               go_must (intro v3 wc hg ho
                        have n0wc := ((hg).cell_far ⟨b, off, none⟩ hb (by simp)).trans hc1
                        have n1wc := ((hg).cell_far ⟨b, off + 1, none⟩ hb (by simp)).trans hc2
                        have hbn := below_none hg
                        have hsc := hbn.size
                        have hbc : b < wc.heap.size := by omega
                        simp only [Nat.zero_add, List.nil_append] at ho
                        have HR := Lib.hid (rdStory_more (q := (uc, (kc, mc))) HQr.out.rd hbn ⟨(Hz.out.1.below (w' := wc) hbn.block).mono hsc, Hz.out.2⟩ ho)
                        have HBc := Lib.hid hbn
                        clear hg ho hbn))
            | (go_at_call 30
               (with_reducible refine (Hn3.out wc.heap.size _ _ ?_ ?_).mono ?_)
               · exact HR.out.below (fun _ _ => rfl)
               · exact Nat.le_refl _
               rintro e w9 ⟨u9, rfl, hown9, hb9'⟩
               go_must (have hb9 : Below wc.heap.size wc w9 := by first | exact hb9' | exact below_undrewS hb9' | exact below_undrewN hb9'
                        have q1 := (hb9.cell (p := ⟨b, off, none⟩) hbc).trans n0wc
                        have q2 := (hb9.cell (p := ⟨b, off + 1, none⟩) hbc).trans n1wc
                        obtain ⟨a9, c9, hv9⟩ := own_len hown9
                        subst hv9
                        have Hfin := Lib.hid (And.intro (own_mono hown9 hsc) (HBc.out.trans (hb9.mono hsc)))
                        clear hb9 hb9' hown9))
            | fail)
        all_goals
          go_wp2
          go_meet
          case rel => exact ⟨_, _, rfl, Hfin.out.1, Hfin.out.2⟩
      case rest =>
      rename World => w8
      obtain ⟨a8, c8, rfl, hown8, hb8⟩ := hcut
      have Hz8 := Lib.hid (RdInts.of_own (by rw [Hzm.out]; exact hown8))
      have Hzq := Lib.hid ((Hzr.out.below (w' := w8) hb8.block).mono hb8.size)
      have hB8 : Below w.heap.size w w8 := hB6.trans (hb8.mono hB6.size)
      clear hown8 hb8
      go_wp2_with fail
      refine (ascend_yes zs _ _ _ Hzq.out (fun j hj => Hasc.out j (by have := Hzl.out; omega))).mono ?_
      rintro e w9 ⟨rfl, n9, rfl⟩
      go_wp2_with fail
      refine (hasInt z2 0 _ _ _ (Hz8.out.below (w' := w8.drewN n9) (fun _ _ => rfl))).mono ?_
      rintro e w10 ⟨rfl, rfl⟩
      rw [decide_eq_true Ht1.out]
      go_wp2_with fail
      refine (hasInt z2 (qs.length : Int) _ _ _ (Hz8.out.below (w' := w8.drewN n9) (fun _ _ => rfl))).mono ?_
      rintro e w11 ⟨rfl, rfl⟩
      rw [decide_eq_true Ht2.out]
      go_wp2
      go_ret
      exact ⟨rfl, below_drewN hB8 _⟩

set_option maxRecDepth 100000 in
theorem lifted (os : Os) (started : os.Started) (H : Type) (enc : TypeId × Value → H) :
    ReturnsInHanded {} Try.checked os 6 .any (Rows.fnNeedlessClaimsSpec.pre6 enc Try.prog Try.f6 Rows.fnNeedlessClaimsRow.domain false) (Rows.fnNeedlessClaimsSpec.post enc Try.prog Try.f6 false true false false) := by
  refine returnsInHanded_of_change (C := Try.checked) Try.own started (by kernel_rfl) Try.func6
    (ChangeSpec.witness6 (enc := enc) (C := Try.checked) false ⟨#[], #[.slice none 0 0], []⟩ 8 (by kernel_rfl) (by kernel_rfl) (by kernel_rfl) (by kernel_rfl)) ?_
  intro W base args ds gs before hval0 hW hcnd _
  have hval : ∀ (j : Nat) t v, Try.f6.params[j]? = some t → args[j]? = some v → Value.okWide Try.prog W .any base t v := hval0
  have hW' := hW
  obtain ⟨p, q, hA0, hV, rfl, hfz, hnd⟩ := hW
  have hA : DataW.TrodAll enc Try.prog W 0 (fun _ => true) true Try.f6.params.toList args.toList ds p := hA0
  rw [Try.params6] at hA hval
  obtain ⟨v0, vs0, d0, ds0, p0, q0, hargs, rfl, rfl, h0, r0⟩ := trodAll_cons hA
  obtain ⟨rfl, rfl, rfl⟩ := trodAll_nil r0
  obtain rfl : args = #[v0] := by cases args; simp_all
  obtain ⟨rfl, rfl⟩ := trodVars_none hV
  obtain ⟨a0, len0, cap0, rfl⟩ := okWide_slice Try.underlying22 (hval 0 22 v0 rfl rfl)
  have k0 := h0
  have lt0 : ∀ x ∈ p0, x.block < W.heap.size := by obtain ⟨m, hm⟩ := k0; exact DataW.trod_lt m _ _ _ hm
  obtain ⟨z0, w0⟩ : ∃ zs, IsRow .u8 W a0 len0 cap0 zs := by
    obtain ⟨fuel, hf⟩ := h0
    rcases open_ints Try.underlying22 Try.underlying5 (by kernel_rfl) hf with ⟨hcs, _⟩ | ⟨x, l, c, zs, hcs, _, hl, hm, hz, _, hcell, hwz⟩
    · simp [Value.cells] at hcs
      obtain ⟨rfl, rfl, rfl⟩ := hcs
      exact ⟨[], .inl ⟨rfl, rfl, rfl, rfl⟩⟩
    · simp [Value.cells] at hcs
      obtain ⟨rfl, rfl, rfl⟩ := hcs
      exact ⟨zs, .inr ⟨_, rfl, hl, hm, by simpa using hz, hcell, hwz⟩⟩
  clear hA0 hval0
  refine (walk _ _ W (RdBytes.of_row w0)).mono fun e W' ⟨he, bel⟩ => ?_
  subst he
  exact ⟨_, rfl, _, _, _, [], _, [], hW', trodAll_mk1 (shut_bool Try.underlying4 _), (trodAll_cons_mk (Below.trod Try.laidOut (by kernel_rfl) (of_decide_eq_true (by kernel_rfl)) k0 bel lt0) trodAll_mk0), rfl, bel.frame _, fun h => by cases h⟩

theorem closed : joinedFacts Try.pinned.checked.prog 6 Try.f6 Rows.fnNeedlessClaimsSpec Rows.fnNeedlessClaimsRow = true := by
  unfold joinedFacts
  exact (and_tt (and_tt (and_tt (and_tt (and_tt (and_tt (and_tt (and_tt (and_tt (and_tt (and_tt (and_tt (and_tt (and_tt (and_tt (and_tt (and_tt (and_tt (and_tt (and_tt (and_tt (and_tt (and_tt (and_tt (and_tt (and_tt (and_tt (and_tt (and_tt (and_tt (and_tt (by kernel_rfl) (by kernel_rfl)) (by kernel_rfl)) (by kernel_rfl)) (by kernel_rfl)) (by kernel_rfl)) (by kernel_rfl)) (by kernel_rfl)) (by kernel_rfl)) (by kernel_rfl)) (by kernel_rfl)) (by kernel_rfl)) (by kernel_rfl)) (by kernel_rfl)) (by kernel_rfl)) (by kernel_rfl)) (by kernel_rfl)) (by kernel_rfl)) (by kernel_rfl)) (by kernel_rfl)) (by kernel_rfl)) (by kernel_rfl)) (by kernel_rfl)) (by kernel_rfl)) (by kernel_rfl)) Try.mayEnter0) (lifted_tt Try.lifts0 rfl)) (make_tt Try.make0 rfl)) (by kernel_rfl)) (by kernel_rfl)) (by kernel_rfl)) (by kernel_rfl))
theorem over : Rows.fnNeedlessClaimsRow.holds Try.pinned (OpenSpec.ofChange Rows.fnNeedlessClaimsSpec) :=
  OpenClaim.holds_of_wide 6 Try.f6 rfl rfl rfl rfl rfl rfl rfl ⟨rfl, rfl, rfl, rfl, rfl⟩ rfl rfl rfl rfl rfl (by kernel_rfl) Try.func6 closed
    (of_decide_eq_true (by kernel_rfl)) (by unfold Func.isWrapper; first | (rw [if_pos (by decide +kernel)]; kernel_rfl) | (rw [if_neg (by decide +kernel)]; exact ⟨rfl, rfl⟩))
    (fun os started H enc _ => lifted os started H enc)

theorem proved : Rows.FnNeedlessClaimsSaid := over
end Go.Proofs.Ytncihjelpaiocaa.fnNeedlessClaims


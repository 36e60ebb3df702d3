/- Exact law of stage 11: proofs that are read. No condition but that the library tables start as the text of the program lays them. -/
import Derived.Test.YtefmoljipbbmmaaDoorMerged0
import Derived.Test.YtefmoljipbbmmaaDoorMerged34
import Derived.Test.YtefmoljipbbmmaaDoorMerged35
import Derived.Test.YtefmoljipbbmmaaDoorMerged36
import Derived.Test.YtefmoljipbbmmaaDoorMerged6
import Derived.Deep.RegionHeld3
import Derived.Deep.Cut
import Derived.WalkKit
import Derived.ProofKit
namespace Go.Proofs.YtefmoljipbbmmaaDoor
open Go.RowKit Go.Joins
theorem ReadProof_spec (p : Int) (us zs : List QC) (he : us.map (·.2) = zs.map (·.2)) (ms : List (Int × Int)) (s : List UInt8) (hs20 : s.length ≤ 2000000) (B : Nat) (v u : Value) (w : World) (hr : RdStory w B v us) (hr' : RdMarks w B u ms) (hB : B ≤ w.heap.size) :
    Calls Tryd.prog 16 #[.int .i64 p, v, u, sv s] w (FindOut (foundS (readF p (zs.map (·.2)) ms (nats8 s))) (foundG (readF p (zs.map (·.2)) ms (nats8 s))) (readF p (zs.map (·.2)) ms (nats8 s)).isSome w) := by
  rw [← he]
  exact specReadProof p us ms s hs20 B v u w hr hr' hB
theorem ReadProof_impl (p : Int) (us zs : List QC) (he : us.map (·.2) = zs.map (·.2)) (ms : List (Int × Int)) (s : List UInt8) (hs20 : s.length ≤ 2000000) (B : Nat) (v u : Value) (w : World) (hr : RdStory w B v us) (hr' : RdMarks w B u ms) (hB : B ≤ w.heap.size) :
    Calls Tryd.prog 17 #[.int .i64 p, v, u, sv s] w (FindOut (foundS (readF p (zs.map (·.2)) ms (nats8 s))) (foundG (readF p (zs.map (·.2)) ms (nats8 s))) (readF p (zs.map (·.2)) ms (nats8 s)).isSome w) := by
  rw [← he]
  exact implReadProof p us ms s hs20 B v u w hr hr' hB
theorem read_small11x {p : Int} {s : List Cl} {ms : List (Int × Int)} {bs : List Nat} : S64 (foundS (readF p s ms bs)) ∧ (foundS (readF p s ms bs)).length ≤ 15 := by
  cases h : readF p s ms bs with
  | none => exact ⟨fun s hs => (by cases hs), Nat.zero_le _⟩
  | some t =>
    obtain ⟨_, h2, _⟩ := readF_iff.1 h
    obtain ⟨_, hf, hsz⟩ := text_read _ _ _ _ _ h2
    have := hsz (by omega)
    exact ⟨flat_S64 t 0 hf (by omega), by show (t.flat 0).length ≤ 15; rw [PT.flat_len]; omega⟩
end Go.Proofs.YtefmoljipbbmmaaDoor
namespace Go.Proofs.YtefmoljipbbmmaaDoor.fnExactReadProof
open Go.ChangeShapes Go.WideShapes Go.ChangeAt Go.RowKit Go.Joins
attribute [local irreducible] holds tabN tabV holdsV sameV followsV alwaysV matterV mirV mirOk mcells tmOf claimOk mayT mayV ctabV ctabN storyV storyOk storyN storyT ctermV ctermL denyV denyOk ccells clashV followsF provesF findF foundS foundG tbF readF textF nats8 scells lay lay3 laidC ctot
open Go.ChangeMaps (open_string shut_string)
set_option linter.unusedVariables false
set_option maxRecDepth 100000 in
set_option maxHeartbeats 8000000 in
theorem walk (a0 : Int) (a1 : Value) (z1 : List QC) (a2 : Value) (z2 : List (Int × Int)) (a3 : ByteArray) (w : World) (w0 : (Lit.int .i64 a0).wf = true) (w1 : RdStory w w.heap.size a1 z1) (w2 : RdMarks w w.heap.size a2 z2) (w3 : a3.size ≤ maxLen) :
    Calls Tryd.prog 4 #[.int .i64 a0, a1, a2, .string a3] w fun e w' => e = .returned (.bool true) ∧ Below w.heap.size w w' := by
  have HA := Lib.hid w1
  have HM := Lib.hid w2
  obtain ⟨mo, mc, rfl, hmn⟩ : ∃ mo mc, a2 = .slice mo z2.length mc ∧ (z2.length : Int) ≤ 9223372036854775807 := by
    obtain ⟨a, c, h1, h2, h3, _⟩ := w2
    unfold maxLen at h3
    exact ⟨a, c, h1, by omega⟩
  have Hi := Lib.hid (show I64s z2 from by obtain ⟨_, _, _, _, _, hi, _⟩ := w2; exact hi)
  clear w1 w2
  obtain ⟨s, rfl⟩ : ∃ s : List UInt8, a3 = ⟨s.toArray⟩ := ⟨a3.data.toList, by simp⟩
  have hsz : (⟨s.toArray⟩ : ByteArray).size = s.length := by simp [ByteArray.size]
  unfold maxLen at w3
  rw [hsz] at w3
  clear hsz
  by_cases hbig : s.length ≤ 1048576
  case neg =>
    have hbig' : (1048576 : Int) < (s.length : Int) := by omega
    clear hbig
    go_enter Tryd.func4, Tryd.ntmps4
    go_wp2
    go_ret
    exact ⟨rfl, Below.refl _ _⟩
  have hbig' : (s.length : Int) ≤ 1048576 := by omega
  have hs := fun us (he : us.map (·.2) = z1.map (·.2)) B v u W h h2 h3 => ReadProof_spec a0 us z1 he z2 s (by omega) B v u W h h2 h3
  have hp := fun us (he : us.map (·.2) = z1.map (·.2)) B v u W h h2 h3 => ReadProof_impl a0 us z1 he z2 s (by omega) B v u W h h2 h3
  obtain ⟨hs64, hl15⟩ : S64 (foundS (readF a0 (z1.map (·.2)) z2 (nats8 s))) ∧ (foundS (readF a0 (z1.map (·.2)) z2 (nats8 s))).length ≤ 15 := read_small11x
  unfold FindOut at hs hp
  generalize foundS (readF a0 (z1.map (·.2)) z2 (nats8 s)) = sp at *
  generalize foundG (readF a0 (z1.map (·.2)) z2 (nats8 s)) = fi at *
  generalize (readF a0 (z1.map (·.2)) z2 (nats8 s)).isSome = oo at *
  have Hs64 := Lib.hid hs64
  generalize hn : sp.length = n at *
  have Hn := Lib.hid hn
  have Hs := Lib.hid hs
  have Hp := Lib.hid hp
  clear hs hp hs64 hn
  obtain ⟨w1, rfl⟩ : ∃ w1 : World, w1 = w := ⟨_, rfl⟩
  have HB_1 := Lib.hid (Below.refl w1.heap.size w1)
  have HA_1 := HA
  have HM_1 := HM
  go_enter Tryd.func4, Tryd.ntmps4
  go_wp2_with fail
  refine (szClaimSB z1 _ _ _ HA_1.out (Nat.le_refl _)).mono ?_
  rintro e w2 ⟨⟨r, rfl, hrr⟩, hb2⟩
  have HA_2 := Lib.hid ((HA_1.out.below (w' := w2) hb2.block).mono hb2.size)
  have HM_2 := Lib.hid ((HM_1.out.below (w' := w2) hb2.block).mono hb2.size)
  have hs2 := hb2.size
  have HB_2 := Lib.hid (HB_1.out.trans (hb2.mono HB_1.out.size))
  clear hb2
  by_cases hnegr : r < 0
  case pos =>
    clear hrr
    go_wp2
    go_ret
    exact ⟨rfl, HB_2.out⟩
  have hrr2 : (0 ≤ r ∧ r ≤ 1048576) ∧ z1.length ≤ 1048576 ∧ ∀ j, j < z1.length → (z1.getD j qc0).2.2.length ≤ 1048576 := by
    rcases hrr with h | h
    · omega
    · exact h
  obtain ⟨⟨hr0, hr1⟩, hlq, hlm⟩ := hrr2
  have Hlm := Lib.hid hlm
  clear hrr hlm
  go_wp2_with fail
  refine (szMarkS_at mo z2.length mc r hmn hr0 hr1 _).mono ?_
  rintro e w' ⟨⟨r2, rfl, hrr2⟩, rfl⟩
  by_cases hnegr2 : r2 < 0
  case pos =>
    clear hrr2
    go_wp2
    go_ret
    exact ⟨rfl, HB_2.out⟩
  have hrr3 : 0 ≤ r2 ∧ r2 ≤ r ∧ z2.length ≤ 1048576 := by
    rcases hrr2 with h | h
    · omega
    · exact h
  obtain ⟨hr20, hr21, hlz⟩ := hrr3
  clear hrr2
  have hoo : (oo != oo) = false := by simp
  go_wp2_with fail
  refine (toClaimS z1 hlq Hlm.out _ _ _ HA_2.out (Nat.le_refl _)).mono ?_
  rintro e w3 ⟨v1, us1, rfl, he1, hst1, hb3⟩
  have HS1_3 := Lib.hid hst1
  have He1 := Lib.hid he1
  clear hst1 he1
  have HA_3 := Lib.hid ((HA_2.out.below (w' := w3) hb3.block).mono hb3.size)
  have HM_3 := Lib.hid ((HM_2.out.below (w' := w3) hb3.block).mono hb3.size)
  have hs3 := hb3.size
  have HB_3 := Lib.hid (HB_2.out.trans (hb3.mono HB_2.out.size))
  clear hb3
  go_wp2_with fail
  refine (toMarkS z2 hlz _ _ _ HM_3.out (Nat.le_refl _)).mono ?_
  rintro e w4 ⟨m1, rfl, ho1, hb4⟩
  have HN1_4 := Lib.hid ho1
  clear ho1
  have HA_4 := Lib.hid ((HA_3.out.below (w' := w4) hb4.block).mono hb4.size)
  have HM_4 := Lib.hid ((HM_3.out.below (w' := w4) hb4.block).mono hb4.size)
  have HS1_4 := Lib.hid (HS1_3.out.below hb4)
  have hs4 := hb4.size
  have HB_4 := Lib.hid (HB_3.out.trans (hb4.mono HB_3.out.size))
  clear hb4
  go_wp2_with fail
  refine (Hs.out us1 He1.out _ _ _ _ HS1_4.out.rd (RdMarks.of_own HN1_4.out Hi.out) (Nat.le_refl _)).mono ?_
  rintro e w5 ⟨vW, rfl, hoW, hb5⟩
  have HQW_5 := Lib.hid hoW
  have HQWlo := Lib.hid (show ∀ k, vW.ownBlock = some k → w4.heap.size ≤ k ∧ k < w5.heap.size from hoW.lt)
  obtain ⟨fW, cW, hfW⟩ := own_len hoW
  subst hfW
  clear hoW
  have HA_5 := Lib.hid ((HA_4.out.below (w' := w5) hb5.block).mono hb5.size)
  have HM_5 := Lib.hid ((HM_4.out.below (w' := w5) hb5.block).mono hb5.size)
  have HS1_5 := Lib.hid (HS1_4.out.below hb5)
  have HN1_5 := Lib.hid (own_below HN1_4.out hb5)
  have hs5 := hb5.size
  have HB_5 := Lib.hid (HB_4.out.trans (hb5.mono HB_4.out.size))
  clear hb5
  go_upto_region 11 with fail
  obtain ⟨w6, hw6, hn6, hb6, hz6⟩ := Box.new w5 (.int .i64 fi) (.slice fW n cW) 37
  have HW_6 := Lib.hid hn6
  rw [← hw6]
  clear hw6 hn6
  have HA_6 := Lib.hid ((HA_5.out.below (w' := w6) hb6.block).mono hb6.size)
  have HM_6 := Lib.hid ((HM_5.out.below (w' := w6) hb6.block).mono hb6.size)
  have HS1_6 := Lib.hid (HS1_5.out.below hb6)
  have HN1_6 := Lib.hid (own_below HN1_5.out hb6)
  have HQW_6 := Lib.hid (own_below HQW_5.out hb6)
  have hs6 := hb6.size
  have HB_6 := Lib.hid (HB_5.out.trans (hb6.mono HB_5.out.size))
  clear hb6
  have gW : w5.heap.size < w6.heap.size := hz6
  clear hz6
  have aW_6 := HW_6.out.1
  have bW_6 := HW_6.out.2.1
  go_wp2_with fail
  refine (toClaimSA z1 hlq Hlm.out _ _ _ HA_6.out (Nat.le_refl _)).mono ?_
  rintro e w7 ⟨v2, us2, rfl, he2, hst2, hap2, hb7⟩
  have HS2_7 := Lib.hid hst2
  have He2 := Lib.hid he2
  have Hap2 := Lib.hid hap2
  clear hap2
  clear hst2 he2
  have HA_7 := Lib.hid ((HA_6.out.below (w' := w7) hb7.block).mono hb7.size)
  have HM_7 := Lib.hid ((HM_6.out.below (w' := w7) hb7.block).mono hb7.size)
  have HQW_7 := Lib.hid (own_below HQW_6.out hb7)
  have HW_7 := Lib.hid (HW_6.out.below hb7)
  have aW_7 := HW_7.out.1
  have bW_7 := HW_7.out.2.1
  have hs7 := hb7.size
  have HB_7 := Lib.hid (HB_6.out.trans (hb7.mono HB_6.out.size))
  clear aW_6 bW_6
  clear hb7
  have HS2l := Lib.hid (StoryIn.inside HS2_7.out)
  go_wp2_with fail
  refine (toMarkS z2 hlz _ _ _ HM_7.out (Nat.le_refl _)).mono ?_
  rintro e w8 ⟨m2, rfl, ho2, hb8⟩
  have HN2_8 := Lib.hid ho2
  clear ho2
  have HA_8 := Lib.hid ((HA_7.out.below (w' := w8) hb8.block).mono hb8.size)
  have HM_8 := Lib.hid ((HM_7.out.below (w' := w8) hb8.block).mono hb8.size)
  have HQW_8 := Lib.hid (own_below HQW_7.out hb8)
  have HW_8 := Lib.hid (HW_7.out.below hb8)
  have HS2_8 := Lib.hid (HS2_7.out.below hb8)
  have aW_8 := HW_8.out.1
  have bW_8 := HW_8.out.2.1
  have hs8 := hb8.size
  have HB_8 := Lib.hid (HB_7.out.trans (hb8.mono HB_7.out.size))
  clear aW_7 bW_7
  clear hb8
  have HN2lo := Lib.hid (show ∀ k, m2.ownBlock = some k → w7.heap.size ≤ k ∧ k < w8.heap.size from HN2_8.out.lt)
  go_wp2_with fail
  refine (Hp.out us2 He2.out _ _ _ _ HS2_8.out.rd (RdMarks.of_own HN2_8.out Hi.out) (Nat.le_refl _)).mono ?_
  rintro e w9 ⟨vG, rfl, hoG, hb9⟩
  have HQG_9 := Lib.hid hoG
  have HQGlo := Lib.hid (show ∀ k, vG.ownBlock = some k → w8.heap.size ≤ k ∧ k < w9.heap.size from hoG.lt)
  obtain ⟨fG, cG, hfG⟩ := own_len hoG
  subst hfG
  clear hoG
  have HA_9 := Lib.hid ((HA_8.out.below (w' := w9) hb9.block).mono hb9.size)
  have HM_9 := Lib.hid ((HM_8.out.below (w' := w9) hb9.block).mono hb9.size)
  have HQW_9 := Lib.hid (own_below HQW_8.out hb9)
  have HW_9 := Lib.hid (HW_8.out.below hb9)
  have HS2_9 := Lib.hid (HS2_8.out.below hb9)
  have HN2_9 := Lib.hid (own_below HN2_8.out hb9)
  have aW_9 := HW_9.out.1
  have bW_9 := HW_9.out.2.1
  have hs9 := hb9.size
  have HB_9 := Lib.hid (HB_8.out.trans (hb9.mono HB_8.out.size))
  clear aW_8 bW_8
  clear hb9
  go_upto_region 14 with fail
  obtain ⟨w10, hw10, hn10, hb10, hz10⟩ := Box.new w9 (.int .i64 fi) (.slice fG n cG) 37
  have HG_10 := Lib.hid hn10
  rw [← hw10]
  clear hw10 hn10
  have HA_10 := Lib.hid ((HA_9.out.below (w' := w10) hb10.block).mono hb10.size)
  have HM_10 := Lib.hid ((HM_9.out.below (w' := w10) hb10.block).mono hb10.size)
  have HQW_10 := Lib.hid (own_below HQW_9.out hb10)
  have HW_10 := Lib.hid (HW_9.out.below hb10)
  have HS2_10 := Lib.hid (HS2_9.out.below hb10)
  have HN2_10 := Lib.hid (own_below HN2_9.out hb10)
  have HQG_10 := Lib.hid (own_below HQG_9.out hb10)
  have aW_10 := HW_10.out.1
  have bW_10 := HW_10.out.2.1
  have hs10 := hb10.size
  have HB_10 := Lib.hid (HB_9.out.trans (hb10.mono HB_9.out.size))
  clear aW_9 bW_9
  clear hb10
  have gG : w9.heap.size < w10.heap.size := hz10
  clear hz10
  have aG_10 := HG_10.out.1
  have bG_10 := HG_10.out.2.1
  go_wp2_with fail
  refine (eqProof fi sp _ _ _ _ _ (RdSplits.of_own (sp := sp) (by rw [Hn.out]; exact HQG_10.out) Hs64.out) (RdSplits.of_own (sp := sp) (by rw [Hn.out]; exact HQW_10.out) Hs64.out) (Nat.le_refl _) (Nat.le_refl _)).mono ?_
  rintro e w11 ⟨rfl, hb11⟩
  have HA_11 := Lib.hid ((HA_10.out.below (w' := w11) hb11.block).mono hb11.size)
  have HM_11 := Lib.hid ((HM_10.out.below (w' := w11) hb11.block).mono hb11.size)
  have HQW_11 := Lib.hid (own_below HQW_10.out hb11)
  have HW_11 := Lib.hid (HW_10.out.below hb11)
  have HS2_11 := Lib.hid (HS2_10.out.below hb11)
  have HN2_11 := Lib.hid (own_below HN2_10.out hb11)
  have HQG_11 := Lib.hid (own_below HQG_10.out hb11)
  have HG_11 := Lib.hid (HG_10.out.below hb11)
  have aW_11 := HW_11.out.1
  have bW_11 := HW_11.out.2.1
  have aG_11 := HG_11.out.1
  have bG_11 := HG_11.out.2.1
  have hs11 := hb11.size
  have HB_11 := Lib.hid (HB_10.out.trans (hb11.mono HB_10.out.size))
  clear aW_10 bW_10
  clear aG_10 bG_10
  clear hb11
  go_wp2_with fail
  refine (toClaimS z1 hlq Hlm.out _ _ _ HA_11.out (Nat.le_refl _)).mono ?_
  rintro e w12 ⟨v3, us3, rfl, he3, hst3, hb12⟩
  have HS3_12 := Lib.hid hst3
  have He3 := Lib.hid he3
  clear hst3 he3
  have HA_12 := Lib.hid ((HA_11.out.below (w' := w12) hb12.block).mono hb12.size)
  have HM_12 := Lib.hid ((HM_11.out.below (w' := w12) hb12.block).mono hb12.size)
  have HQW_12 := Lib.hid (own_below HQW_11.out hb12)
  have HW_12 := Lib.hid (HW_11.out.below hb12)
  have HS2_12 := Lib.hid (HS2_11.out.below hb12)
  have HN2_12 := Lib.hid (own_below HN2_11.out hb12)
  have HQG_12 := Lib.hid (own_below HQG_11.out hb12)
  have HG_12 := Lib.hid (HG_11.out.below hb12)
  have aW_12 := HW_12.out.1
  have bW_12 := HW_12.out.2.1
  have aG_12 := HG_12.out.1
  have bG_12 := HG_12.out.2.1
  have hs12 := hb12.size
  have HB_12 := Lib.hid (HB_11.out.trans (hb12.mono HB_11.out.size))
  clear aW_11 bW_11
  clear aG_11 bG_11
  clear hb12
  go_wp2_with fail
  refine (eqClaimS us2 us3 (He2.out.trans He3.out.symm) _ _ _ _ _ HS2_12.out.rd HS3_12.out.rd (Nat.le_refl _) (Nat.le_refl _)).mono ?_
  rintro e w13 ⟨rfl, hb13⟩
  have HA_13 := Lib.hid ((HA_12.out.below (w' := w13) hb13.block).mono hb13.size)
  have HM_13 := Lib.hid ((HM_12.out.below (w' := w13) hb13.block).mono hb13.size)
  have HQW_13 := Lib.hid (own_below HQW_12.out hb13)
  have HW_13 := Lib.hid (HW_12.out.below hb13)
  have HS2_13 := Lib.hid (HS2_12.out.below hb13)
  have HN2_13 := Lib.hid (own_below HN2_12.out hb13)
  have HQG_13 := Lib.hid (own_below HQG_12.out hb13)
  have HG_13 := Lib.hid (HG_12.out.below hb13)
  have HS3_13 := Lib.hid (HS3_12.out.below hb13)
  have aW_13 := HW_13.out.1
  have bW_13 := HW_13.out.2.1
  have aG_13 := HG_13.out.1
  have bG_13 := HG_13.out.2.1
  have hs13 := hb13.size
  have HB_13 := Lib.hid (HB_12.out.trans (hb13.mono HB_12.out.size))
  clear aW_12 bW_12
  clear aG_12 bG_12
  clear hb13
  go_wp2_with fail
  refine (toMarkS z2 hlz _ _ _ HM_13.out (Nat.le_refl _)).mono ?_
  rintro e w14 ⟨m3, rfl, ho3, hb14⟩
  have HN3_14 := Lib.hid ho3
  clear ho3
  have HA_14 := Lib.hid ((HA_13.out.below (w' := w14) hb14.block).mono hb14.size)
  have HM_14 := Lib.hid ((HM_13.out.below (w' := w14) hb14.block).mono hb14.size)
  have HQW_14 := Lib.hid (own_below HQW_13.out hb14)
  have HW_14 := Lib.hid (HW_13.out.below hb14)
  have HS2_14 := Lib.hid (HS2_13.out.below hb14)
  have HN2_14 := Lib.hid (own_below HN2_13.out hb14)
  have HQG_14 := Lib.hid (own_below HQG_13.out hb14)
  have HG_14 := Lib.hid (HG_13.out.below hb14)
  have aW_14 := HW_14.out.1
  have bW_14 := HW_14.out.2.1
  have aG_14 := HG_14.out.1
  have bG_14 := HG_14.out.2.1
  have hs14 := hb14.size
  have HB_14 := Lib.hid (HB_13.out.trans (hb14.mono HB_13.out.size))
  clear aW_13 bW_13
  clear aG_13 bG_13
  clear hb14
  go_wp2_with fail
  refine (eqMarkS z2 z2 _ _ _ _ _ (RdMarks.of_own HN2_14.out Hi.out) (RdMarks.of_own HN3_14.out Hi.out) (Nat.le_refl _) (Nat.le_refl _)).mono ?_
  rintro e w15 ⟨rfl, hb15⟩
  rw [show decide (z2 = z2) = true from by simp]
  have HA_15 := Lib.hid ((HA_14.out.below (w' := w15) hb15.block).mono hb15.size)
  have HM_15 := Lib.hid ((HM_14.out.below (w' := w15) hb15.block).mono hb15.size)
  have HQW_15 := Lib.hid (own_below HQW_14.out hb15)
  have HW_15 := Lib.hid (HW_14.out.below hb15)
  have HS2_15 := Lib.hid (HS2_14.out.below hb15)
  have HN2_15 := Lib.hid (own_below HN2_14.out hb15)
  have HQG_15 := Lib.hid (own_below HQG_14.out hb15)
  have HG_15 := Lib.hid (HG_14.out.below hb15)
  have HN3_15 := Lib.hid (own_below HN3_14.out hb15)
  have aW_15 := HW_15.out.1
  have bW_15 := HW_15.out.2.1
  have aG_15 := HG_15.out.1
  have bG_15 := HG_15.out.2.1
  have hs15 := hb15.size
  have HB_15 := Lib.hid (HB_14.out.trans (hb15.mono HB_14.out.size))
  clear aW_14 bW_14
  clear aG_14 bG_14
  clear hb15
  have hct := ctot_bound us2 (story_bound He2.out hlq Hlm.out).1 (story_bound He2.out hlq Hlm.out).2
  go_wp2_with fail
  refine (markClaimS us2 1 (by omega) _ _ _ _ HS2_15.out Hap2.out).mono ?_
  rintro e w16 ⟨rfl, _, ho16⟩
  have hk16 : Kept w6.heap.size w7.heap.size w15 w16 := Kept.of_only ho16 HS2l.out.1 HS2l.out.2
  clear ho16
  have HB_16 := Lib.hid (hk16.below HB_15.out (by omega) HB_15.out.size)
  have hs16 : w15.heap.size ≤ w16.heap.size := hk16.size
  have HA_16 := Lib.hid ((HA.out.below (w' := w16) HB_16.out.block).mono HB_16.out.size)
  have HM_16 := Lib.hid ((HM.out.below (w' := w16) HB_16.out.block).mono HB_16.out.size)
  have HQW_16 := Lib.hid (hk16.own HQW_15.out (fun k hk => by have := HQWlo.out k hk; omega))
  have HW_16 := Lib.hid (hk16.box HW_15.out (by omega))
  have aW_16 := HW_16.out.1
  have bW_16 := HW_16.out.2.1
  have HN2_16 := Lib.hid (hk16.own HN2_15.out (fun k hk => by have := HN2lo.out k hk; omega))
  have HQG_16 := Lib.hid (hk16.own HQG_15.out (fun k hk => by have := HQGlo.out k hk; omega))
  have HG_16 := Lib.hid (hk16.box HG_15.out (by omega))
  have aG_16 := HG_16.out.1
  have bG_16 := HG_16.out.2.1
  clear aW_15 bW_15
  clear aG_15 bG_15
  clear hk16
  generalize hKK : 1 + ctot us2 = K at *
  have hK5 : K ≤ 4000000000001 := by omega
  clear hKK hct
  go_wp2_with fail
  refine (markMarkS z2 K (by omega) _ _ _ HN2_16.out).mono ?_
  rintro e w17 ⟨rfl, _, hg17⟩
  have hk17 : Kept w7.heap.size w8.heap.size w16 w17 := Kept.of_grown hg17 HN2lo.out
  clear hg17
  have HB_17 := Lib.hid (hk17.below HB_16.out (by omega) HB_16.out.size)
  have hs17 : w16.heap.size ≤ w17.heap.size := hk17.size
  have HA_17 := Lib.hid ((HA.out.below (w' := w17) HB_17.out.block).mono HB_17.out.size)
  have HM_17 := Lib.hid ((HM.out.below (w' := w17) HB_17.out.block).mono HB_17.out.size)
  have HQW_17 := Lib.hid (hk17.own HQW_16.out (fun k hk => by have := HQWlo.out k hk; omega))
  have HW_17 := Lib.hid (hk17.box HW_16.out (by omega))
  have aW_17 := HW_17.out.1
  have bW_17 := HW_17.out.2.1
  have HQG_17 := Lib.hid (hk17.own HQG_16.out (fun k hk => by have := HQGlo.out k hk; omega))
  have HG_17 := Lib.hid (hk17.box HG_16.out (by omega))
  have aG_17 := HG_17.out.1
  have bG_17 := HG_17.out.2.1
  clear aW_16 bW_16
  clear aG_16 bG_16
  clear hk17
  have hk0 : (0 : Int) ≤ ((K + z2.length * 2 : Nat) : Int) := by omega
  generalize ((K + z2.length * 2 : Nat) : Int) = KK at *
  have hKd : decide (KK < 0) = false := decide_eq_false (by omega)
  go_wp2_with fail
  refine (eqProof fi sp _ _ _ _ _ (RdSplits.of_own (sp := sp) (by rw [Hn.out]; exact HQG_17.out) Hs64.out) (RdSplits.of_own (sp := sp) (by rw [Hn.out]; exact HQW_17.out) Hs64.out) (Nat.le_refl _) (Nat.le_refl _)).mono ?_
  rintro e w18 ⟨rfl, hb18⟩
  have HA_18 := Lib.hid ((HA_17.out.below (w' := w18) hb18.block).mono hb18.size)
  have HM_18 := Lib.hid ((HM_17.out.below (w' := w18) hb18.block).mono hb18.size)
  have HQW_18 := Lib.hid (own_below HQW_17.out hb18)
  have HW_18 := Lib.hid (HW_17.out.below hb18)
  have HQG_18 := Lib.hid (own_below HQG_17.out hb18)
  have HG_18 := Lib.hid (HG_17.out.below hb18)
  have aW_18 := HW_18.out.1
  have bW_18 := HW_18.out.2.1
  have aG_18 := HG_18.out.1
  have bG_18 := HG_18.out.2.1
  have hs18 := hb18.size
  have HB_18 := Lib.hid (HB_17.out.trans (hb18.mono HB_17.out.size))
  clear aW_17 bW_17
  clear aG_17 bG_17
  clear hb18
  go_wp2_with fail
  refine (markProofH fi sp 1 (by have := Hn.out; omega) _ _ _ (by rw [Hn.out]; exact HQG_18.out)).mono ?_
  rintro e w19 ⟨rfl, hl19, hg19⟩
  rw [Hn.out] at hl19 ⊢
  have HL_19 : Hid (RdSplits w19 w19.heap.size (.slice fG n cG) (lay3 1 n)) := RdSplits.of_own (by rw [lay3_length]; exact hl19) (lay3_S64 (by omega))
  have hk19 : Kept w8.heap.size w9.heap.size w18 w19 := Kept.of_grown hg19 HQGlo.out
  clear hg19 hl19
  have HB_19 := Lib.hid (hk19.below HB_18.out (by omega) HB_18.out.size)
  have hs19 : w18.heap.size ≤ w19.heap.size := hk19.size
  have HA_19 := Lib.hid ((HA.out.below (w' := w19) HB_19.out.block).mono HB_19.out.size)
  have HM_19 := Lib.hid ((HM.out.below (w' := w19) HB_19.out.block).mono HB_19.out.size)
  have HQW_19 := Lib.hid (hk19.own HQW_18.out (fun k hk => by have := HQWlo.out k hk; omega))
  have HW_19 := Lib.hid (hk19.box HW_18.out (by omega))
  have aW_19 := HW_19.out.1
  have bW_19 := HW_19.out.2.1
  have HG_19 := Lib.hid (hk19.box HG_18.out (by omega))
  have aG_19 := HG_19.out.1
  have bG_19 := HG_19.out.2.1
  clear aW_18 bW_18
  clear aG_18 bG_18
  clear hk19
  have hm16 : (0 : Int) ≤ ((1 + n * 3 : Nat) : Int) := by omega
  generalize hMM : 1 + n * 3 = Mm at *
  have HMm := Lib.hid hMM; clear hMM
  go_wp2_with fail
  refine (heldProofH fi n 1 (by omega) _ _ _ HL_19.out (Nat.le_refl _)).mono ?_
  rintro e w20 ⟨rfl, hb20⟩
  rw [HMm.out]
  have HA_20 := Lib.hid ((HA_19.out.below (w' := w20) hb20.block).mono hb20.size)
  have HM_20 := Lib.hid ((HM_19.out.below (w' := w20) hb20.block).mono hb20.size)
  have HQW_20 := Lib.hid (own_below HQW_19.out hb20)
  have HW_20 := Lib.hid (HW_19.out.below hb20)
  have HG_20 := Lib.hid (HG_19.out.below hb20)
  have HL_20 := Lib.hid ((HL_19.out.below (w' := w20) hb20.block).mono hb20.size)
  have aW_20 := HW_20.out.1
  have bW_20 := HW_20.out.2.1
  have aG_20 := HG_20.out.1
  have bG_20 := HG_20.out.2.1
  have hs20 := hb20.size
  have HB_20 := Lib.hid (HB_19.out.trans (hb20.mono HB_19.out.size))
  clear aW_19 bW_19
  clear aG_19 bG_19
  clear hb20
  go_wp2_with fail
  refine (toClaimS z1 hlq Hlm.out _ _ _ HA_20.out (Nat.le_refl _)).mono ?_
  rintro e w21 ⟨v4, us4, rfl, he4, hst4, hb21⟩
  have HS4_21 := Lib.hid hst4
  have He4 := Lib.hid he4
  clear hst4 he4
  have HA_21 := Lib.hid ((HA_20.out.below (w' := w21) hb21.block).mono hb21.size)
  have HM_21 := Lib.hid ((HM_20.out.below (w' := w21) hb21.block).mono hb21.size)
  have HQW_21 := Lib.hid (own_below HQW_20.out hb21)
  have HW_21 := Lib.hid (HW_20.out.below hb21)
  have HG_21 := Lib.hid (HG_20.out.below hb21)
  have HL_21 := Lib.hid ((HL_20.out.below (w' := w21) hb21.block).mono hb21.size)
  have aW_21 := HW_21.out.1
  have bW_21 := HW_21.out.2.1
  have aG_21 := HG_21.out.1
  have bG_21 := HG_21.out.2.1
  have hs21 := hb21.size
  have HB_21 := Lib.hid (HB_20.out.trans (hb21.mono HB_20.out.size))
  clear aW_20 bW_20
  clear aG_20 bG_20
  clear hb21
  go_wp2_with fail
  refine (toMarkS z2 hlz _ _ _ HM_21.out (Nat.le_refl _)).mono ?_
  rintro e w22 ⟨m4, rfl, ho4, hb22⟩
  have HN4_22 := Lib.hid ho4
  clear ho4
  have HA_22 := Lib.hid ((HA_21.out.below (w' := w22) hb22.block).mono hb22.size)
  have HM_22 := Lib.hid ((HM_21.out.below (w' := w22) hb22.block).mono hb22.size)
  have HQW_22 := Lib.hid (own_below HQW_21.out hb22)
  have HW_22 := Lib.hid (HW_21.out.below hb22)
  have HG_22 := Lib.hid (HG_21.out.below hb22)
  have HL_22 := Lib.hid ((HL_21.out.below (w' := w22) hb22.block).mono hb22.size)
  have HS4_22 := Lib.hid (HS4_21.out.below hb22)
  have aW_22 := HW_22.out.1
  have bW_22 := HW_22.out.2.1
  have aG_22 := HG_22.out.1
  have bG_22 := HG_22.out.2.1
  have hs22 := hb22.size
  have HB_22 := Lib.hid (HB_21.out.trans (hb22.mono HB_21.out.size))
  clear aW_21 bW_21
  clear aG_21 bG_21
  clear hb22
  go_wp2_with fail
  refine (Hp.out us4 He4.out _ _ _ _ HS4_22.out.rd (RdMarks.of_own HN4_22.out Hi.out) (Nat.le_refl _)).mono ?_
  rintro e w23 ⟨vV, rfl, hoV, hb23⟩
  have HQV_23 := Lib.hid hoV
  have HQVlo := Lib.hid (show ∀ k, vV.ownBlock = some k → w22.heap.size ≤ k ∧ k < w23.heap.size from hoV.lt)
  obtain ⟨fV, cV, hfV⟩ := own_len hoV
  subst hfV
  clear hoV
  have HA_23 := Lib.hid ((HA_22.out.below (w' := w23) hb23.block).mono hb23.size)
  have HM_23 := Lib.hid ((HM_22.out.below (w' := w23) hb23.block).mono hb23.size)
  have HQW_23 := Lib.hid (own_below HQW_22.out hb23)
  have HW_23 := Lib.hid (HW_22.out.below hb23)
  have HG_23 := Lib.hid (HG_22.out.below hb23)
  have HL_23 := Lib.hid ((HL_22.out.below (w' := w23) hb23.block).mono hb23.size)
  have HS4_23 := Lib.hid (HS4_22.out.below hb23)
  have HN4_23 := Lib.hid (own_below HN4_22.out hb23)
  have aW_23 := HW_23.out.1
  have bW_23 := HW_23.out.2.1
  have aG_23 := HG_23.out.1
  have bG_23 := HG_23.out.2.1
  have hs23 := hb23.size
  have HB_23 := Lib.hid (HB_22.out.trans (hb23.mono HB_22.out.size))
  clear aW_22 bW_22
  clear aG_22 bG_22
  clear hb23
  go_upto_region 34 with fail
  obtain ⟨w24, hw24, hn24, hb24, hz24⟩ := Box.new w23 (.int .i64 fi) (.slice fV n cV) 37
  have HV_24 := Lib.hid hn24
  rw [← hw24]
  clear hw24 hn24
  have HA_24 := Lib.hid ((HA_23.out.below (w' := w24) hb24.block).mono hb24.size)
  have HM_24 := Lib.hid ((HM_23.out.below (w' := w24) hb24.block).mono hb24.size)
  have HQW_24 := Lib.hid (own_below HQW_23.out hb24)
  have HW_24 := Lib.hid (HW_23.out.below hb24)
  have HG_24 := Lib.hid (HG_23.out.below hb24)
  have HL_24 := Lib.hid ((HL_23.out.below (w' := w24) hb24.block).mono hb24.size)
  have HS4_24 := Lib.hid (HS4_23.out.below hb24)
  have HN4_24 := Lib.hid (own_below HN4_23.out hb24)
  have HQV_24 := Lib.hid (own_below HQV_23.out hb24)
  have aW_24 := HW_24.out.1
  have bW_24 := HW_24.out.2.1
  have aG_24 := HG_24.out.1
  have bG_24 := HG_24.out.2.1
  have hs24 := hb24.size
  have HB_24 := Lib.hid (HB_23.out.trans (hb24.mono HB_23.out.size))
  clear aW_23 bW_23
  clear aG_23 bG_23
  clear hb24
  have gV : w23.heap.size < w24.heap.size := hz24
  clear hz24
  have aV_24 := HV_24.out.1
  have bV_24 := HV_24.out.2.1
  go_wp2_with fail
  refine (eqProof fi sp _ _ _ _ _ (RdSplits.of_own (sp := sp) (by rw [Hn.out]; exact HQV_24.out) Hs64.out) (RdSplits.of_own (sp := sp) (by rw [Hn.out]; exact HQW_24.out) Hs64.out) (Nat.le_refl _) (Nat.le_refl _)).mono ?_
  rintro e w25 ⟨rfl, hb25⟩
  have HA_25 := Lib.hid ((HA_24.out.below (w' := w25) hb25.block).mono hb25.size)
  have HM_25 := Lib.hid ((HM_24.out.below (w' := w25) hb25.block).mono hb25.size)
  have HQW_25 := Lib.hid (own_below HQW_24.out hb25)
  have HW_25 := Lib.hid (HW_24.out.below hb25)
  have HG_25 := Lib.hid (HG_24.out.below hb25)
  have HL_25 := Lib.hid ((HL_24.out.below (w' := w25) hb25.block).mono hb25.size)
  have HS4_25 := Lib.hid (HS4_24.out.below hb25)
  have HN4_25 := Lib.hid (own_below HN4_24.out hb25)
  have HQV_25 := Lib.hid (own_below HQV_24.out hb25)
  have HV_25 := Lib.hid (HV_24.out.below hb25)
  have aW_25 := HW_25.out.1
  have bW_25 := HW_25.out.2.1
  have aG_25 := HG_25.out.1
  have bG_25 := HG_25.out.2.1
  have aV_25 := HV_25.out.1
  have bV_25 := HV_25.out.2.1
  have hs25 := hb25.size
  have HB_25 := Lib.hid (HB_24.out.trans (hb25.mono HB_24.out.size))
  clear aW_24 bW_24
  clear aG_24 bG_24
  clear aV_24 bV_24
  clear hb25
  go_wp2_with fail
  refine (heldProofH fi n 1 (by omega) _ _ _ HL_25.out (Nat.le_refl _)).mono ?_
  rintro e w26 ⟨rfl, hb26⟩
  rw [HMm.out]
  have HA_26 := Lib.hid ((HA_25.out.below (w' := w26) hb26.block).mono hb26.size)
  have HM_26 := Lib.hid ((HM_25.out.below (w' := w26) hb26.block).mono hb26.size)
  have HQW_26 := Lib.hid (own_below HQW_25.out hb26)
  have HW_26 := Lib.hid (HW_25.out.below hb26)
  have HG_26 := Lib.hid (HG_25.out.below hb26)
  have HL_26 := Lib.hid ((HL_25.out.below (w' := w26) hb26.block).mono hb26.size)
  have HS4_26 := Lib.hid (HS4_25.out.below hb26)
  have HN4_26 := Lib.hid (own_below HN4_25.out hb26)
  have HQV_26 := Lib.hid (own_below HQV_25.out hb26)
  have HV_26 := Lib.hid (HV_25.out.below hb26)
  have aW_26 := HW_26.out.1
  have bW_26 := HW_26.out.2.1
  have aG_26 := HG_26.out.1
  have bG_26 := HG_26.out.2.1
  have aV_26 := HV_26.out.1
  have bV_26 := HV_26.out.2.1
  have hs26 := hb26.size
  have HB_26 := Lib.hid (HB_25.out.trans (hb26.mono HB_25.out.size))
  clear aW_25 bW_25
  clear aG_25 bG_25
  clear aV_25 bV_25
  clear hb26
  go_wp2
  go_ret
  exact ⟨rfl, HB_26.out⟩

set_option maxRecDepth 100000 in
theorem lifted (os : Os) (started : os.Started) (H : Type) (enc : TypeId × Value → H) :
    ReturnsInHanded {} Tryd.checked os 4 .any (fun w args => (Rows.fnExactReadProofSpec.pre enc Tryd.prog Tryd.f4 Rows.fnExactReadProofRow.domain false w args ∧ laidMet Tryd.prog tabs w) ∧ sizedMet enc Tryd.prog Tryd.f4 (OpenSpec.ofChange Rows.fnExactReadProofSpec) false w args) (Rows.fnExactReadProofSpec.post enc Tryd.prog Tryd.f4 false true false false) := by
  refine returnsInHanded_of_change_and (C := Tryd.checked) (X := fun w _ => laidMet Tryd.prog tabs w) (fun _ _ _ hh h => h.of_heap hh) Tryd.own started (by kernel_rfl) Tryd.func4
    (ChangeSpec.witness_at (enc := enc) (C := Tryd.checked) (os := os) (X := fun w _ => laidMet Tryd.prog tabs w) false (laidWorld os) #[.int .i64 0, .slice none 0 0, .slice none 0 0, .string ByteArray.empty] 8 rfl (by kernel_rfl) (by kernel_rfl) (by kernel_rfl) (by kernel_rfl) (by kernel_rfl) (laidWorld_met os _)) ?_
  intro W base args ds gs before hval0 hW hcnd _ hL _
  have hval : ∀ (j : Nat) t v, Tryd.f4.params[j]? = some t → args[j]? = some v → Value.okWide Tryd.prog W .any base t v := hval0
  have hW' := hW
  obtain ⟨p, q, hA0, hV, rfl, hfz, hnd⟩ := hW
  have hA : DataW.TrodAll enc Tryd.prog W 0 (fun _ => true) true Tryd.f4.params.toList args.toList ds p := hA0
  rw [Tryd.params4] at hA hval
  obtain ⟨v0, vs0, d0, ds0, p0, q0, hargs, rfl, rfl, h0, r0⟩ := trodAll_cons hA
  obtain ⟨v1, vs1, d1, ds1, p1, q1, rfl, rfl, rfl, h1, r1⟩ := trodAll_cons r0
  obtain ⟨v2, vs2, d2, ds2, p2, q2, rfl, rfl, rfl, h2, r2⟩ := trodAll_cons r1
  obtain ⟨v3, vs3, d3, ds3, p3, q3, rfl, rfl, rfl, h3, r3⟩ := trodAll_cons r2
  obtain ⟨rfl, rfl, rfl⟩ := trodAll_nil r3
  obtain rfl : args = #[v0, v1, v2, v3] := by cases args; simp_all
  obtain ⟨rfl, rfl⟩ := trodVars_none hV
  obtain ⟨a0, rfl, rfl, rfl, w0⟩ := open_int Tryd.underlying3 (hval 0 3 v0 rfl rfl) h0
  obtain ⟨a1, len1, cap1, rfl⟩ := okWide_slice Tryd.underlying22 (hval 1 22 v1 rfl rfl)
  have k1 := h1
  have lt1 : ∀ x ∈ p1, x.block < W.heap.size := by obtain ⟨m, hm⟩ := k1; exact DataW.trod_lt m _ _ _ hm
  obtain ⟨z1, e1, w1⟩ : ∃ qs, len1 = qs.length ∧ RdStory W W.heap.size (.slice a1 len1 cap1) qs := by
    obtain ⟨fuel, hf⟩ := h1
    exact open_story Tryd.underlying22 Tryd.underlying51 (by kernel_rfl) rfl rfl (by kernel_rfl) (by kernel_rfl) Tryd.underlying3 Tryd.underlying23 Tryd.underlying61 (by kernel_rfl) rfl rfl (by kernel_rfl) (by kernel_rfl) Tryd.underlying3 Tryd.underlying3 hf
  obtain ⟨a2, len2, cap2, rfl⟩ := okWide_slice Tryd.underlying23 (hval 2 23 v2 rfl rfl)
  have k2 := h2
  have lt2 : ∀ x ∈ p2, x.block < W.heap.size := by obtain ⟨m, hm⟩ := k2; exact DataW.trod_lt m _ _ _ hm
  obtain ⟨z2, w2⟩ : ∃ zs, IsMarks W a2 len2 cap2 zs := by
    obtain ⟨fuel, hf⟩ := h2
    exact open_marks Tryd.underlying23 Tryd.underlying61 (by kernel_rfl) rfl rfl (by kernel_rfl) (by kernel_rfl) Tryd.underlying3 Tryd.underlying3 hf
  obtain ⟨a3, rfl, rfl, rfl, w3⟩ := open_string Tryd.underlying9 (hval 3 9 v3 rfl rfl) h3
  clear hA0 hval0
  refine (walk a0 _ _ _ _ a3 W w0 w1 (RdMarks.of_row w2) w3).mono fun e W' ⟨he, bel⟩ => ?_
  subst he
  exact ⟨_, rfl, _, _, _, [], _, [], hW', trodAll_mk1 (shut_bool Tryd.underlying4 _), (trodAll_cons_mk (shut_int Tryd.underlying3 w0) (trodAll_cons_mk (Below.trod Tryd.laidOut (by kernel_rfl) (of_decide_eq_true (by kernel_rfl)) k1 bel lt1) (trodAll_cons_mk (Below.trod Tryd.laidOut (by kernel_rfl) (of_decide_eq_true (by kernel_rfl)) k2 bel lt2) (trodAll_cons_mk (shut_string Tryd.underlying9 w3) trodAll_mk0)))), rfl, bel.frame _, fun h => by cases h⟩

theorem closed : joinedFacts Tryd.pinned.checked.prog 4 Tryd.f4 Rows.fnExactReadProofSpec Rows.fnExactReadProofRow = true := by
  unfold joinedFacts
  exact (and_tt (and_tt (and_tt (and_tt (and_tt (and_tt (and_tt (and_tt (and_tt (and_tt (and_tt (and_tt (and_tt (and_tt (and_tt (and_tt (and_tt (and_tt (and_tt (and_tt (and_tt (and_tt (and_tt (and_tt (and_tt (and_tt (and_tt (and_tt (and_tt (and_tt (and_tt (by kernel_rfl) (by kernel_rfl)) (by kernel_rfl)) (by kernel_rfl)) (by kernel_rfl)) (by kernel_rfl)) (by kernel_rfl)) (by kernel_rfl)) (by kernel_rfl)) (by kernel_rfl)) (by kernel_rfl)) (by kernel_rfl)) (by kernel_rfl)) (by kernel_rfl)) (by kernel_rfl)) (by kernel_rfl)) (by kernel_rfl)) (by kernel_rfl)) (by kernel_rfl)) (by kernel_rfl)) (by kernel_rfl)) (by kernel_rfl)) (by kernel_rfl)) (by kernel_rfl)) (by kernel_rfl)) Tryd.mayEnter0) (lifted_tt Tryd.lifts0 rfl)) (make_tt Tryd.make0 rfl)) (by kernel_rfl)) (by kernel_rfl)) (by kernel_rfl)) (by kernel_rfl))
theorem over : Rows.fnExactReadProofRow.holds Tryd.pinned (OpenSpec.ofChange Rows.fnExactReadProofSpec) :=
  OpenClaim.holds_of_wide 4 Tryd.f4 rfl rfl rfl rfl rfl rfl rfl ⟨rfl, rfl, rfl, rfl, rfl⟩ rfl rfl rfl rfl rfl (by kernel_rfl) Tryd.func4 closed
    (of_decide_eq_true (by kernel_rfl)) (by unfold Func.isWrapper; first | (rw [if_pos (by decide +kernel)]; kernel_rfl) | (rw [if_neg (by decide +kernel)]; exact ⟨rfl, rfl⟩))
    (fun os started H enc _ => lifted os started H enc)

theorem proved : Rows.FnExactReadProofCardSaid :=
  Claim7.holds_tied_plain_at .later [] [.data, .data, .data] true Rows.fnExactReadProofCard.stood.harness false
    over (fun _ h => by cases h) (by kernel_rfl) (fun _ h => by cases h) fnExactReadProof_row_tie rfl ⟨rfl, rfl⟩ (by kernel_rfl) rfl
    (fun f fn hf hfn => by
      obtain rfl : f = 4 := Option.some.inj ((show Tryd.prog.funcNamed "loop.example/tellersandliars/laws.FnExactReadProof" = some 4 by kernel_rfl).symm.trans hf) |>.symm
      obtain rfl : fn = Tryd.f4 := (Option.some.inj (Tryd.func4.symm.trans hfn)).symm
      exact ⟨by kernel_rfl, fun j t ht => by
        rw [Tryd.params4] at ht
        have h3 : t = 3 ∨ t = 22 ∨ t = 23 ∨ t = 9 := by
          rcases j with _ | _ | _ | _ | j
          · left; simpa using ht.symm
          · right; left; simpa using ht.symm
          · right; right; left; simpa using ht.symm
          · right; right; right; simpa using ht.symm
          · simp at ht
        rcases h3 with rfl | rfl | rfl | rfl
        · exact (show Tryd.prog.wantsStandIn 3 = false by kernel_rfl)
        · exact (show Tryd.prog.wantsStandIn 22 = false by kernel_rfl)
        · exact (show Tryd.prog.wantsStandIn 23 = false by kernel_rfl)
        · exact (show Tryd.prog.wantsStandIn 9 = false by kernel_rfl)⟩)
    (by kernel_rfl)
end Go.Proofs.YtefmoljipbbmmaaDoor.fnExactReadProof

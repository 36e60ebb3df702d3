/- A law of stage 4: stories are told in any order. It answers true, whatever the code. No condition. -/
import Derived.Test.YtcpdcokcckbggaaDrawS
import Derived.Test.YtcpdcokcckbggaaDrawH
import Derived.Test.YtcpdcokcckbggaaMirrorS
import Derived.Test.YtcpdcokcckbggaaTruthI
import Derived.Test.YtcpdcokcckbggaaClaimI
import Derived.Test.YtcpdcokcckbggaaClaimE
import Derived.Test.YtcpdcokcckbggaaLawsA
import Derived.Deep.RegionHeld3
import Derived.Deep.Cut
import Derived.Test.YtcpdcokcckbggaaClaimF
namespace Go.Proofs.Ytcpdcokcckbggaa
open Go.RowKit
theorem rdStory_nil (W : World) (B : Nat) (a : Option Addr) : RdStory W B (.slice a 0 0) [] :=
  ⟨a, 0, rfl, Nat.le_refl _, by unfold maxLen; omega, fun q hq => by simp at hq, fun j hj => by simp at hj⟩
theorem claimTab {p k : Int} {ms : List (Int × Int)} (h : claimOk p (k, ms) = true) (B : Nat) (u : Value) (w : World) (hr : RdMarks w B u ms) (hB : B ≤ w.heap.size) :
    Calls Try.prog 34 #[.int .i64 p, .agg #[.int .i64 k, u]] w fun e w' => e = .returned (.int .i64 (ctabN p (k, ms))) ∧ Below w.heap.size w w' := by
  rw [← ctabV_yes h]
  exact implClaimTable p k ms B u w hr hB
theorem ccells_nil : ccells [] = [] := rfl
theorem ccells_cons (q : QC) (r : List QC) : ccells [q] ++ ccells r = ccells (q :: r) := by rw [← ccells_append]; rfl
theorem rev_take (qs : List QC) (j : Nat) (hj : j < qs.length) : (qs.take (j + 1)).reverse = qs.getD j qc0 :: (qs.take j).reverse := by
  have e : qs.getD j qc0 = qs[j] := by simp [List.getD, hj]
  rw [List.take_succ_eq_append_getElem hj, e]
  simp
theorem own_newC (w : World) (base : Nat) (k : Int) (u : Value) (ms : List (Int × Int)) (hb : base ≤ w.heap.size) : (w.alloc (.cells #[.int .i64 k, u] TC)).ownsRow base TC 2 (.slice (some ⟨w.heap.size, 0, none⟩) 1 1) 1 (ccells [(u, (k, ms))]) :=
  ⟨rfl, .inr ⟨w.heap.size, 1, _, rfl, hb, heap_alloc_new w _, Nat.le_refl _, by unfold maxLen; omega, rfl, rfl⟩⟩
end Go.Proofs.Ytcpdcokcckbggaa
namespace Go.Proofs.Ytcpdcokcckbggaa.fnStoryTable
open Go.ChangeShapes Go.WideShapes Go.ChangeAt Go.RowKit Go.Joins
attribute [local irreducible] holds tabN tabV holdsV sameV followsV alwaysV matterV mirV mirOk mcells tmOf claimOk mayT mayV ctabV ctabN storyV storyOk storyN storyT ctermV ctermL denyV denyOk ccells
open Go.ChangeMaps (open_string shut_string)
set_option linter.unusedVariables false
set_option maxRecDepth 100000 in
set_option maxHeartbeats 4000000 in
theorem walk (a0 : Value) (n0 : Nat) (w : World) (w0 : RdBytes w w.heap.size a0 n0) :
    Calls Try.prog 9 #[a0] w fun e w' => e = .returned (.bool true) ∧ Below w.heap.size w w' := by
  have hr := w0
  by_cases hbig : n0 ≤ 1048576
  case neg =>
    obtain ⟨ao, cap, rfl, hl, hm, hc⟩ := w0
    have hbig' := code_big hbig
    unfold maxLen at hm
    clear hc hr hbig
    go_enter Try.func9, Try.ntmps9
    go_wp2
    go_ret
    exact ⟨rfl, Below.refl _ _⟩
  have hbig' : (n0 : Int) ≤ 1048576 := by omega
  clear hbig
  obtain ⟨ao, cap, rfl, hl, hm, hc⟩ := w0
  have Hr := Lib.hid hr
  clear hc hr hl hm
  go_enter Try.func9, Try.ntmps9
  go_wp2_with fail
  refine (drawStoryTable _ _ _ Hr.out).mono ?_
  rintro e w1 ⟨p, v, qs, hp4', hp8, rfl, hst, hqs, hq7, hB1⟩
  have HS1 := Lib.hid hst
  obtain ⟨vo, vc, hvf⟩ := own_len hst.1
  subst hvf
  have hvc : qs.length ≤ vc := by
    rcases hst.1.2 with ⟨h0, hz⟩ | ⟨g', cap', cur, h0, _, _, h1, _⟩
    · injection h0 with _ h2 h3; omega
    · injection h0 with _ h2 h3; omega
  clear hst
  obtain ⟨ic, hci, hcz0, hcz1, hcz2⟩ := info_parts Try.infoC
  have Ci := Lib.hid hci; clear hci
  have Cz0 := Lib.hid hcz0; clear hcz0
  have Cz1 := Lib.hid hcz1; clear hcz1
  have Cz2 := Lib.hid hcz2; clear hcz2
  have Hit := Lib.hid (fun B u W h h2 => implStoryTable p qs B u W h h2)
  have Hst := Lib.hid (fun B u W h h2 => specStoryTable p qs B u W h h2)
  have Hio := Lib.hid (fun B u W h h2 => implStoryOk p qs B u W h h2)
  cases hok : storyOk p (qs.map (·.2)) with
  | false =>
    rw [storyV_no hok] at Hit Hst
    rw [hok] at Hio
    clear hok hvc
    go_wp2_with fail
    refine (Hit.out _ _ _ HS1.out.rd (Nat.le_refl _)).mono ?_
    rintro e w2 ⟨rfl, hb2⟩
    have hB2 : Below w.heap.size w w2 := hB1.trans (hb2.mono hB1.size)
    have HS2 := Lib.hid (HS1.out.below hb2)
    clear hb2 
    go_wp2_with fail
    refine (Hst.out _ _ _ HS2.out.rd (Nat.le_refl _)).mono ?_
    rintro e w3 ⟨rfl, hb3⟩
    have hB3 : Below w.heap.size w w3 := hB2.trans (hb3.mono hB2.size)
    have HS3 := Lib.hid (HS2.out.below hb3)
    clear hb3 
    go_wp2_with fail
    refine (Hio.out _ _ _ HS3.out.rd (Nat.le_refl _)).mono ?_
    rintro e w4 ⟨rfl, hb4⟩
    have hB4 : Below w.heap.size w w4 := hB3.trans (hb4.mono hB3.size)
    have HS4 := Lib.hid (HS3.out.below hb4)
    clear hb4 
    go_wp2_with fail
    refine (alive _).mono ?_
    rintro e w' ⟨rfl, rfl⟩
    go_wp2
    go_ret
    exact ⟨rfl, hB4⟩
  | true =>
  rw [storyV_yes hok] at Hit Hst
  obtain ⟨hall, hpok, _⟩ := storyOk_iff.1 hok
  obtain ⟨h1, h4⟩ : 1 ≤ p ∧ p ≤ 4 := by simpa [pOk] using hpok
  have Hall : Hid (∀ j, j < qs.length → claimOk p (qs.getD j qc0).2 = true) := fun j hj => by
    have e : qs.getD j qc0 = qs[j] := by simp [List.getD, hj]
    rw [e]; exact hall _ (List.mem_map.2 ⟨_, List.getElem_mem hj, rfl⟩)
  have hrok : storyOk p (qs.reverse.map (·.2)) = true := storyOk_sub hok (by simp) (fun c hc => by
    obtain ⟨q, hq, rfl⟩ := List.mem_map.1 hc
    exact List.mem_map.2 ⟨q, by simpa using hq, rfl⟩)
  have hrev : storyN p (qs.reverse.map (·.2)) = storyN p (qs.map (·.2)) := storyN_ext (fun c => by simp)
  have Hrt := Lib.hid (fun B u W h h2 => implStoryTable p qs.reverse B u W h h2)
  rw [storyV_yes hrok, hrev] at Hrt
  have hnok : storyOk p (([] : List QC).map (·.2)) = true := by rw [List.map_nil, storyOk_nil]; exact hpok
  have Hnt := Lib.hid (fun (W : World) a => implStoryTable p [] 0 (.slice a 0 0) W (rdStory_nil W 0 a) (Nat.zero_le _))
  rw [storyV_yes hnok, List.map_nil] at Hnt
  have Hcl0 := Lib.hid (fun k ms (h : claimOk p (k, ms) = true) B u W h1 h2 => claimTab h B u W h1 h2)
  have Hsucc0 := Lib.hid (fun j hj => story_take p qs j hj)
  have Hlt : Hid (∀ s, storyN p s < 65536) := fun s => storyN_lt h1 h4
  have Hct : Hid (∀ c, ctabN p c < 65536) := fun s => ctabN_lt h1 h4
  have H0 := Lib.hid (storyN_nil p)
  obtain ⟨F, hF⟩ : ∃ F : Int, F = (storyN p [] : Int) := ⟨_, rfl⟩
  have HF := Lib.hid hF; clear hF
  clear hall hpok hrok hrev hnok hok
  generalize storyN p = SN at *
  generalize ctabN p = CT at *
  obtain ⟨T, hT⟩ : ∃ T, T = SN (qs.map (·.2)) := ⟨_, rfl⟩
  rw [← hT] at Hit Hst Hrt
  have HT := Lib.hid hT; clear hT
  go_wp2_with fail
  refine (Hit.out _ _ _ HS1.out.rd (Nat.le_refl _)).mono ?_
  rintro e w2 ⟨rfl, hb2⟩
  have hB2 : Below w.heap.size w w2 := hB1.trans (hb2.mono hB1.size)
  have HS2 := Lib.hid (HS1.out.below hb2)
  clear hb2 
  go_wp2_with fail
  refine (Hst.out _ _ _ HS2.out.rd (Nat.le_refl _)).mono ?_
  rintro e w3 ⟨rfl, hb3⟩
  have hB3 : Below w.heap.size w w3 := hB2.trans (hb3.mono hB2.size)
  have HS3 := Lib.hid (HS2.out.below hb3)
  clear hb3 
  clear Hit Hst Hio HS1 HS2 hB1 hB2
  have hT0 : ¬ (T : Int) < 0 := by omega
  rcases p_cases h1 h4 with rfl | rfl | rfl | rfl
  all_goals
    clear h1 h4
    have hsn : SN [] = _ := H0.out
    have hFv := HF.out
    rw [hsn] at hFv Hnt
    simp at hFv Hnt
    go_upto_region 13 with fail
    obtain ⟨w4, hw4⟩ : ∃ w4 : World, w4 = w3.alloc (.cells #[] TC) := ⟨_, rfl⟩
    have hb4 : Below w3.heap.size w3 w4 := by rw [hw4]; exact (Below.refl _ _).alloc (Nat.le_refl _) _
    have HS4 := Lib.hid (HS3.out.below hb4)
    have hB4 : Below w.heap.size w w4 := hB3.trans (hb4.mono hB3.size)
    have hown4 : w4.ownsRow w3.heap.size TC 2 (.slice (some ⟨w3.heap.size, 0, none⟩) 0 0) 0 (ccells []) := by rw [hw4, ccells_nil]; exact World.ownsRow_made _ _ 0 (Nat.le_refl _) (by unfold maxLen; omega) rfl
    rw [← hw4]
    have hb34 := hb4
    clear hw4 hb4 HS3
    have hs34 : w3.heap.size ≤ w4.heap.size := by have := (hown4.lt w3.heap.size rfl).2; omega
    go_wp2_with fail
    go_loopw [7, 8, 9] (fun t' v i wr => ∃ (j g' cp' : Nat), j ≤ qs.length ∧ i = .int .i64 j ∧ t' = .int .i64 (SN ((qs.take j).map (·.2)) : Nat) ∧ v = .slice (some ⟨g', 0, none⟩) j cp' ∧ wr.ownsRow w3.heap.size TC 2 (.slice (some ⟨g', 0, none⟩) j cp') j (ccells (qs.take j).reverse) ∧ Below w3.heap.size w4 wr ∧ StoryIn wr w.heap.size w.heap.size (.slice vo qs.length vc) qs) (fun _ _ i _ => qs.length - (intOf i).toNat)
    case atStart => exact ⟨0, _, _, Nat.zero_le _, rfl, by rw [List.take_zero, List.map_nil, hsn]; rfl, rfl, by rw [List.take_zero]; exact hown4, Below.refl _ _, HS4.out⟩
    case round =>
      obtain ⟨j, g', cp', hj, rfl, rfl, rfl, hown, hbr, hst⟩ := hrel
      by_cases hlt : j < qs.length
      · obtain ⟨ao', cap', hv', hal, ham, _, hac⟩ := hst.rd
        obtain ⟨b, off, hao, hb, hc1, hc2⟩ := hac j hlt
        have hvo : vo = some ⟨b, off, none⟩ := by
          injection hv' with hv1 hv2 hv3
          rw [hv1, hao]
        subst hvo
        have hm := (hst.rd.get hlt).1
        have hok := Hall.out j hlt
        have hsucc := Hsucc0.out j hlt
        have hrt := rev_take qs j hlt
        have hone : ∀ u ∈ ccells (qs.take j).reverse, u.oneCell' = true := ccells_one (fun q hq => own_one (hst.2 q (List.mem_of_mem_take (by simpa using hq))).1)
        have hlenr : (ccells (qs.take j).reverse).length = j * 2 := by rw [ccells_length]; simp; omega
        have hI := (hst.rd.get hlt).2
        clear hac hal ham hv' hao
        generalize qs.getD j qc0 = q at *
        obtain ⟨u, k, ms⟩ := q
        dsimp only at hc1 hc2 hm
        have Hcl := Lib.hid (Hcl0.out k ms hok wr.heap.size u wr hm (Nat.le_refl _))
        have hand := bits_and_nat (SN ((qs.take j).map (·.2))) (CT (k, ms)) (by have := Hlt.out ((qs.take j).map (·.2)); omega) (by have := Hct.out (k, ms); omega)
        rw [← hsucc] at hand
        generalize SN ((qs.take j).map (·.2)) = A at *
        generalize CT (k, ms) = U at *
        have Hown := Lib.hid hown
        have Hbr := Lib.hid hbr
        have Hst5 := Lib.hid hst
        have Hrt := Lib.hid hrt
        have Hone := Lib.hid hone
        have Hlenr := Lib.hid hlenr
        clear hown hbr hst hrt hone hlenr hm hok hsucc hI
        go_wp2_with fail
        refine Hcl.out.mono ?_
        rintro e w6 ⟨rfl, hb6⟩
        have d1 := (hb6.cell (p := ⟨b, off + j * 2, none⟩) hb).trans hc1
        have d2 := (hb6.cell (p := ⟨b, off + j * 2 + 1, none⟩) hb).trans hc2
        have Hown6 := Lib.hid (own_below Hown.out hb6)
        have Hst6 := Lib.hid (Hst5.out.below hb6)
        have hs36 : w3.heap.size ≤ wr.heap.size := Hbr.out.size |> fun h => by omega
        have Hbr6 := Lib.hid (Hbr.out.trans (hb6.mono hs36))
        have hs6 : w3.heap.size ≤ w6.heap.size := by have := hb6.size; omega
        clear hb6 hc1 hc2 Hown Hst5 Hcl
        go_wp2_with (at_builtin; refine wpList_append_own _ rfl _ _ 50 rfl w6.heap.size TC ic (.agg #[.int .i64 0, .slice none 0 0]) 2 32 Try.underlying50 Ci.out Cz0.out Cz1.out Cz2.out rfl (by decide) (.slice (some ⟨w6.heap.size, 0, none⟩) 1 1) 1 (ccells [(u, (k, ms))]) rfl (own_newC w6 w6.heap.size k u ms (Nat.le_refl _)) ⟨g', 0, none⟩ j cp' (ccells (qs.take j).reverse) rfl Hlenr.out ((Hown6.out.alloc _).cells (g := g') rfl) Hone.out (by unfold maxLen; omega) (by omega) (by simp) ?_)
        intro v' w7 hown7 hgr7 _
        obtain ⟨g2, cp2, rfl⟩ := ownsRow_form hown7 (by omega)
        have hG7 : w6.grownBy w7 none := grown_own (only_alloc (World.grownBy.refl _ _) _) hgr7 (fun k hk => by simp [Value.ownBlock] at hk; omega)
        have hb7 := below_none hG7
        have Hst7 := Lib.hid (Hst6.out.below hb7)
        have Hbr7 := Lib.hid (Hbr6.out.trans (hb7.mono hs6))
        have hown8 : w7.ownsRow w3.heap.size TC 2 (.slice (some ⟨g2, 0, none⟩) (j + 1) cp2) (j + 1) (ccells (qs.take (j + 1)).reverse) := by
          rw [Hrt.out, ← ccells_cons, Nat.add_comm j 1]
          exact own_mono hown7 hs6
        have Hown8 := Lib.hid hown8
        clear hown7 hgr7 hG7 hb7 hown8 Hst6 Hbr6 Hown6 Hone Hlenr
        go_wp2
        go_roundw
        case rel => exact ⟨j + 1, g2, cp2, by omega, by go_num, by first | rfl | (rw [hand]; done) | (rw [List.map_take]; done), by rw [Nat.add_comm j 1], Hown8.out, Hbr7.out, Hst7.out⟩
        case measure => simp [intOf]; omega
      · obtain rfl : j = qs.length := by omega
        rw [List.take_length] at hown ⊢
        rw [← HT.out]
        have hback : StoryIn wr w3.heap.size w.heap.size (.slice (some ⟨g', 0, none⟩) qs.reverse.length cp') qs.reverse :=
          ⟨by rw [List.length_reverse]; exact hown, fun q hq => hst.2 q (by simpa using hq)⟩
        have hrb := hback.rd
        rw [List.length_reverse] at hrb
        have Hrb := Lib.hid hrb
        have HB := Lib.hid (show Below w.heap.size w wr from hB3.trans ((show Below w3.heap.size w3 wr from (hb34.trans (hbr.mono (Nat.le_refl _)))).mono hB3.size))
        clear hown hbr hst hback hrb
        go_wp2_with fail
        refine (Hrt.out _ _ _ Hrb.out (Nat.le_refl _)).mono ?_
        rintro e w6 ⟨rfl, hb6⟩
        have HB6 := Lib.hid (HB.out.trans (hb6.mono HB.out.size))
        clear hb6
        go_wp2_with fail
        refine (Hnt.out _ _).mono ?_
        rintro e w7 ⟨rfl, hb7'⟩
        have HB7 := Lib.hid (HB6.out.trans ((((Below.refl _ _).alloc (Nat.le_refl _) _).trans (hb7'.mono (by simp))).mono HB6.out.size))
        clear hb7'
        go_wp2
        go_ret
        exact ⟨rfl, HB7.out⟩

set_option maxRecDepth 100000 in
theorem lifted (os : Os) (started : os.Started) (H : Type) (enc : TypeId × Value → H) :
    ReturnsInHanded {} Try.checked os 9 .any (Rows.fnStoryTableSpec.pre6 enc Try.prog Try.f9 Rows.fnStoryTableRow.domain false) (Rows.fnStoryTableSpec.post enc Try.prog Try.f9 false true false false) := by
  refine returnsInHanded_of_change (C := Try.checked) Try.own started (by kernel_rfl) Try.func9
    (ChangeSpec.witness6 (enc := enc) (C := Try.checked) false ⟨#[], #[.slice none 0 0], []⟩ 8 (by kernel_rfl) (by kernel_rfl) (by kernel_rfl) (by kernel_rfl)) ?_
  intro W base args ds gs before hval0 hW hcnd _
  have hval : ∀ (j : Nat) t v, Try.f9.params[j]? = some t → args[j]? = some v → Value.okWide Try.prog W .any base t v := hval0
  have hW' := hW
  obtain ⟨p, q, hA0, hV, rfl, hfz, hnd⟩ := hW
  have hA : DataW.TrodAll enc Try.prog W 0 (fun _ => true) true Try.f9.params.toList args.toList ds p := hA0
  rw [Try.params9] at hA hval
  obtain ⟨v0, vs0, d0, ds0, p0, q0, hargs, rfl, rfl, h0, r0⟩ := trodAll_cons hA
  obtain ⟨rfl, rfl, rfl⟩ := trodAll_nil r0
  obtain rfl : args = #[v0] := by cases args; simp_all
  obtain ⟨rfl, rfl⟩ := trodVars_none hV
  obtain ⟨a0, len0, cap0, rfl⟩ := okWide_slice Try.underlying22 (hval 0 22 v0 rfl rfl)
  have k0 := h0
  have lt0 : ∀ x ∈ p0, x.block < W.heap.size := by obtain ⟨m, hm⟩ := k0; exact DataW.trod_lt m _ _ _ hm
  obtain ⟨z0, w0⟩ : ∃ zs, IsRow .u8 W a0 len0 cap0 zs := by
    obtain ⟨fuel, hf⟩ := h0
    rcases open_ints Try.underlying22 Try.underlying5 (by kernel_rfl) hf with ⟨hcs, _⟩ | ⟨x, l, c, zs, hcs, _, hl, hm, hz, _, hcell, hwz⟩
    · simp [Value.cells] at hcs
      obtain ⟨rfl, rfl, rfl⟩ := hcs
      exact ⟨[], .inl ⟨rfl, rfl, rfl, rfl⟩⟩
    · simp [Value.cells] at hcs
      obtain ⟨rfl, rfl, rfl⟩ := hcs
      exact ⟨zs, .inr ⟨_, rfl, hl, hm, by simpa using hz, hcell, hwz⟩⟩
  clear hA0 hval0
  refine (walk _ _ W (RdBytes.of_row w0)).mono fun e W' ⟨he, bel⟩ => ?_
  subst he
  exact ⟨_, rfl, _, _, _, [], _, [], hW', trodAll_mk1 (shut_bool Try.underlying4 _), (trodAll_cons_mk (Below.trod Try.laidOut (by kernel_rfl) (of_decide_eq_true (by kernel_rfl)) k0 bel lt0) trodAll_mk0), rfl, bel.frame _, fun h => by cases h⟩

theorem closed : joinedFacts Try.pinned.checked.prog 9 Try.f9 Rows.fnStoryTableSpec Rows.fnStoryTableRow = true := by
  unfold joinedFacts
  exact (and_tt (and_tt (and_tt (and_tt (and_tt (and_tt (and_tt (and_tt (and_tt (and_tt (and_tt (and_tt (and_tt (and_tt (and_tt (and_tt (and_tt (and_tt (and_tt (and_tt (and_tt (and_tt (and_tt (and_tt (and_tt (and_tt (and_tt (and_tt (and_tt (and_tt (and_tt (by kernel_rfl) (by kernel_rfl)) (by kernel_rfl)) (by kernel_rfl)) (by kernel_rfl)) (by kernel_rfl)) (by kernel_rfl)) (by kernel_rfl)) (by kernel_rfl)) (by kernel_rfl)) (by kernel_rfl)) (by kernel_rfl)) (by kernel_rfl)) (by kernel_rfl)) (by kernel_rfl)) (by kernel_rfl)) (by kernel_rfl)) (by kernel_rfl)) (by kernel_rfl)) (by kernel_rfl)) (by kernel_rfl)) (by kernel_rfl)) (by kernel_rfl)) (by kernel_rfl)) (by kernel_rfl)) Try.mayEnter0) (lifted_tt Try.lifts0 rfl)) (make_tt Try.make0 rfl)) (by kernel_rfl)) (by kernel_rfl)) (by kernel_rfl)) (by kernel_rfl))
theorem over : Rows.fnStoryTableRow.holds Try.pinned (OpenSpec.ofChange Rows.fnStoryTableSpec) :=
  OpenClaim.holds_of_wide 9 Try.f9 rfl rfl rfl rfl rfl rfl rfl ⟨rfl, rfl, rfl, rfl, rfl⟩ rfl rfl rfl rfl rfl (by kernel_rfl) Try.func9 closed
    (of_decide_eq_true (by kernel_rfl)) (by unfold Func.isWrapper; first | (rw [if_pos (by decide +kernel)]; kernel_rfl) | (rw [if_neg (by decide +kernel)]; exact ⟨rfl, rfl⟩))
    (fun os started H enc _ => lifted os started H enc)

theorem proved : Rows.FnStoryTableSaid := over
end Go.Proofs.Ytcpdcokcckbggaa.fnStoryTable


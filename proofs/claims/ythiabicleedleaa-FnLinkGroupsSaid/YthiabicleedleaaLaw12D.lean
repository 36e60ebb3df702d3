/- A law of stage 12: groups are those of links. It answers true, whatever the code. No condition. -/
import Derived.Test.YthiabicleedleaaMerged19
import Derived.Test.YthiabicleedleaaMerged20
import Derived.Test.YthiabicleedleaaClaimI
import Derived.Test.YthiabicleedleaaMerged14
import Derived.Test.YthiabicleedleaaOneI
import Derived.Test.YthiabicleedleaaMerged4
import Derived.Test.YthiabicleedleaaMerged6
import Derived.Test.YthiabicleedleaaMerged18
import Derived.Deep.RegionHeld3
import Derived.Deep.Cut
import Derived.Test.YthiabicleedleaaLinkA
namespace Go.Proofs.Ythiabicleedleaa
open Go.RowKit Go.Joins
theorem rdI12 {w : World} {base : Nat} {t : TypeId} {v : Value} {r : List Nat} (h : w.ownsRow base t 1 v r.length (vals r)) : RdInts w w.heap.size v (nums r) := by
  refine RdInts.of_own (e := t) (base := base) ?_
  rw [show (nums r).length = r.length by simp [nums]]
  rw [vals_nums r] at h
  exact h
theorem grp_same {P : Nat} {ls : List Lk} (h : inL P ls) {l : Lk} (hl : l ∈ ls) : (grpF P ls).getD l.1.toNat 0 = (grpF P ls).getD l.2.1.toNat 0 := by
  obtain ⟨a, b, c⟩ := grp_inv h
  have hc : cst (grpF P ls) (fun x => decide ((grpF P ls).getD x 0 = (grpF P ls).getD l.1.toNat 0)) := fun x hx => by
    show decide ((grpF P ls).getD x 0 = (grpF P ls).getD l.1.toNat 0) = decide ((grpF P ls).getD ((grpF P ls).getD x 0) 0 = (grpF P ls).getD l.1.toNat 0)
    rw [(b x hx).2]
  have := (c _).1 hc l hl
  rw [decide_eq_true rfl] at this
  exact (of_decide_eq_true this.symm).symm
theorem back_ok (p : Int) (ls : List Lk) : linksOk p ls.reverse = linksOk p ls := by
  rw [Bool.eq_iff_iff, linksOk_iff, linksOk_iff]
  simp
theorem back_take (ls : List Lk) (k : Nat) (hk : k < ls.length) : (ls.take (k + 1)).reverse = ls.getD k lk0 :: (ls.take k).reverse := by
  rw [List.take_succ_eq_append_getElem hk, List.reverse_append]
  simp [List.getD, hk]
theorem own_newL (w : World) (base : Nat) (a b : Int) (t : Bool) (hb : base ≤ w.heap.size) : (w.alloc (.cells #[.int .i64 a, .int .i64 b, .bool t] TL)).ownsRow base TL 3 (.slice (some ⟨w.heap.size, 0, none⟩) 1 1) 1 (lcells [(a, b, t)]) :=
  ⟨rfl, .inr ⟨w.heap.size, 1, _, rfl, hb, heap_alloc_new w _, Nat.le_refl _, by unfold maxLen; omega, rfl, rfl⟩⟩
theorem made_linksD (w : World) : (w.alloc (.cells #[] TL)).ownsRow w.heap.size TL 3 (.slice (some ⟨w.heap.size, 0, none⟩) 0 0) 0 (lcells []) := World.ownsRow_made _ _ 0 (Nat.le_refl _) (by unfold maxLen; omega) rfl
theorem lcells_consD (l : Lk) (r : List Lk) : lcells [l] ++ lcells r = lcells (l :: r) := by rw [← lcells_append]; rfl
end Go.Proofs.Ythiabicleedleaa
namespace Go.Proofs.Ythiabicleedleaa.fnLinkGroups
open Go.ChangeShapes Go.WideShapes Go.ChangeAt Go.RowKit Go.Joins
attribute [local irreducible] holds tabN tabV holdsV sameV followsV alwaysV matterV mirV mirOk mcells tmOf claimOk mayT mayV ctabV ctabN storyV storyOk storyN storyT ctermV ctermL denyV denyOk ccells onlyOk onlyN swl linksOk linkS linkC grpF grpL lwV lcells opt
open Go.ChangeMaps (open_string shut_string)
set_option linter.unusedVariables false
set_option maxRecDepth 100000 in
set_option maxHeartbeats 8000000 in
theorem walk (a0 : Value) (n0 : Nat) (w : World) (w0 : RdBytes w w.heap.size a0 n0) :
    Calls Try.prog 6 #[a0] w fun e w' => e = .returned (.bool true) ∧ Below w.heap.size w w' := by
  have hr := w0
  by_cases hbig : n0 ≤ 1048576
  case neg =>
    obtain ⟨ao, cap, rfl, hl, hm, hc⟩ := w0
    have hbig' := code_big hbig
    unfold maxLen at hm
    clear hc hr hbig
    go_enter Try.func6, Try.ntmps6
    go_wp2
    go_ret
    exact ⟨rfl, Below.refl _ _⟩
  have hbig' : (n0 : Int) ≤ 1048576 := by omega
  clear hbig
  obtain ⟨ao, cap, rfl, hl, hm, hc⟩ := w0
  have Hr := Lib.hid hr
  clear hc hr hl hm
  go_enter Try.func6, Try.ntmps6
  go_wp2_with fail
  refine (drawLinkGroups _ _ _ Hr.out).mono ?_
  rintro e w1 ⟨p, v, ls, hp0, hp8, rfl, hown, hls, hl8, hB1⟩
  have HL1 := Lib.hid (RdLinks.of_own hown hls.i64)
  obtain ⟨lo, lc, hvf⟩ := own_len hown
  subst hvf
  have hlc : ls.length ≤ lc := by
    obtain ⟨_, _, h, h1, _⟩ := HL1.out
    injection h with _ _ h3
    omega
  clear hown
  have hgi := fun B u W h h2 => implLinkGroups p ls B u W h h2
  have hgs := fun B u W h h2 => specLinkGroups p ls B u W h h2
  cases hok : linksOk p ls with
  | false =>
    have hf : grpL p ls = [] := by unfold grpL; rw [hok]; rfl
    have hlo := fun B u W h h2 => implLinksOk p ls B u W h h2
    rw [hok] at hlo
    rw [hf] at hgi hgs
    have Hgi := Lib.hid hgi
    have Hgs := Lib.hid hgs
    have Hlo := Lib.hid hlo
    clear hgi hgs hlo hf hok hls
    go_wp2_with fail
    refine (Hgi.out _ _ _ HL1.out (Nat.le_refl _)).mono ?_
    rintro e w2 ⟨u2, rfl, ho2, hb2⟩
    have HL2 := Lib.hid ((HL1.out.below (w' := w2) hb2.block).mono hb2.size)
    have hB2 : Below w.heap.size w w2 := hB1.trans (hb2.mono hB1.size)
    have HI22 := Lib.hid (rdI12 ho2)
    obtain ⟨a2, c2, hf2⟩ := own_len ho2
    subst hf2
    clear ho2 hb2
    go_wp2_with fail
    refine (Hgs.out _ _ _ HL2.out (Nat.le_refl _)).mono ?_
    rintro e w3 ⟨u3, rfl, ho3, hb3⟩
    have HL3 := Lib.hid ((HL2.out.below (w' := w3) hb3.block).mono hb3.size)
    have HI23 := Lib.hid ((HI22.out.below (w' := w3) hb3.block).mono hb3.size)
    have hB3 : Below w.heap.size w w3 := hB2.trans (hb3.mono hB2.size)
    have HI33 := Lib.hid (rdI12 ho3)
    obtain ⟨a3, c3, hf3⟩ := own_len ho3
    subst hf3
    clear ho3 hb3
    go_wp2_with fail
    refine (sameInts (nums []) (nums []) _ _ _ _ _ HI23.out HI33.out).mono ?_
    rintro e w4 ⟨rfl, n4, hw4⟩
    have hb4 : Below w3.heap.size w3 w4 := by rw [← hw4]; exact below_drewN (Below.refl _ _) _
    clear hw4
    rw [show decide (nums [] = nums []) = true from by simp]
    have HL4 := Lib.hid ((HL3.out.below (w' := w4) hb4.block).mono hb4.size)
    have hB4 : Below w.heap.size w w4 := hB3.trans (hb4.mono hB3.size)
    clear hb4
    go_wp2_with fail
    refine (Hlo.out _ _ _ HL4.out (Nat.le_refl _)).mono ?_
    rintro e w5 ⟨rfl, hb5⟩
    have hB5 : Below w.heap.size w w5 := hB4.trans (hb5.mono hB4.size)
    clear hb5
    go_wp2_with fail
    refine (alive _).mono ?_
    rintro e w' ⟨rfl, rfl⟩
    go_wp2
    go_ret
    exact ⟨rfl, hB5⟩
  | true =>
  obtain ⟨hmem, h1, h4, h6⟩ := linksOk_iff.1 hok
  obtain ⟨P, rfl⟩ := Int.eq_ofNat_of_zero_le hp0
  have hin := inL_of hok
  rw [Int.toNat_natCast] at hin
  obtain ⟨hlen, hcan, _⟩ := grp_inv hin
  have hgl : grpL (P : Int) ls = grpF P ls := by unfold grpL; rw [hok]; rfl
  have hgb : grpL (P : Int) ls.reverse = grpF P ls := by unfold grpL; rw [back_ok, hok, Int.toNat_natCast, grp_back hin]; rfl
  have hgi2 := fun B u W h h2 => implLinkGroups (P : Int) ls.reverse B u W h h2
  rw [hgb] at hgi2
  rw [hgl] at hgi hgs
  have Hsame : Hid (∀ k, k < ls.length → ∃ a c : Nat, (ls.getD k lk0).1 = (a : Int) ∧ (ls.getD k lk0).2.1 = (c : Int) ∧ a < P ∧ c < P ∧ (grpF P ls).getD a 0 = (grpF P ls).getD c 0) := fun k hk => by
    have hm : ls.getD k lk0 ∈ ls := by rw [show ls.getD k lk0 = ls[k] by simp [List.getD, hk]]; exact List.getElem_mem hk
    obtain ⟨x1, x2, x3, x4⟩ := hmem _ hm
    have hs := grp_same hin hm
    exact ⟨_, _, (Int.toNat_of_nonneg x1).symm, (Int.toNat_of_nonneg x3).symm, by omega, by omega, hs⟩
  have Hcan : Hid (∀ k, k < P → (grpF P ls).getD k 0 ≤ k ∧ (grpF P ls).getD ((grpF P ls).getD k 0) 0 = (grpF P ls).getD k 0) := fun k hk => hcan k (by omega)
  have Hat := Lib.hid (fun k hk => vals_at (grpF P ls) k hk)
  have Hbt := Lib.hid (fun k hk => back_take ls k hk)
  have Hbe : Hid ((ls.take ls.length).reverse = ls.reverse) := by unfold Hid; rw [List.take_length]
  have Hl64 : Hid (L64 ls) := hls.i64
  have hP1 : 1 ≤ P := by omega
  have hP4 : P ≤ 4 := by omega
  generalize grpF P ls = r at *
  obtain ⟨ii, hi, hz0, hz1, hz2⟩ := info_parts Try.infoL
  have Hi := Lib.hid hi; clear hi
  have Hz0 := Lib.hid hz0; clear hz0
  have Hz1 := Lib.hid hz1; clear hz1
  have Hz2 := Lib.hid hz2; clear hz2
  have Hgi := Lib.hid hgi
  have Hgs := Lib.hid hgs
  have Hgi2 := Lib.hid hgi2
  have Hlen := Lib.hid hlen
  clear hgi hgs hgi2 hok hls hmem h1 h4 h6 hin hcan hgl hgb hp8 hp0
  go_wp2_with fail
  refine (Hgi.out _ _ _ HL1.out (Nat.le_refl _)).mono ?_
  rintro e w2 ⟨u2, rfl, ho2, hb2⟩
  have HL2 := Lib.hid ((HL1.out.below (w' := w2) hb2.block).mono hb2.size)
  have hB2 : Below w.heap.size w w2 := hB1.trans (hb2.mono hB1.size)
  have HI22 := Lib.hid (rdI12 ho2)
  rw [hlen] at ho2
  obtain ⟨gb, gc, hu⟩ := ownsRow_form ho2 (by omega)
  subst hu
  have hcp := own_cap ho2
  unfold maxLen at hcp
  have HO2 := Lib.hid ho2
  clear ho2 hb2
  go_wp2_with fail
  refine (Hgs.out _ _ _ HL2.out (Nat.le_refl _)).mono ?_
  rintro e w3 ⟨u3, rfl, ho3, hb3⟩
  have HL3 := Lib.hid ((HL2.out.below (w' := w3) hb3.block).mono hb3.size)
  have HI23 := Lib.hid ((HI22.out.below (w' := w3) hb3.block).mono hb3.size)
  have hB3 : Below w.heap.size w w3 := hB2.trans (hb3.mono hB2.size)
  have HI33 := Lib.hid (rdI12 ho3)
  have HO3 := Lib.hid (own_below HO2.out hb3)
  rw [hlen] at ho3
  obtain ⟨g3, c3, hu⟩ := ownsRow_form ho3 (by omega)
  subst hu
  clear ho3 hb3
  go_wp2_with fail
  refine (sameInts (nums r) (nums r) _ _ _ _ _ HI23.out HI33.out).mono ?_
  rintro e w4 ⟨rfl, n4, hw4⟩
  have hb4 : Below w3.heap.size w3 w4 := by rw [← hw4]; exact below_drewN (Below.refl _ _) _
  clear hw4
  rw [show decide (nums r = nums r) = true from by simp]
  have HL4 := Lib.hid ((HL3.out.below (w' := w4) hb4.block).mono hb4.size)
  have hB4 : Below w.heap.size w w4 := hB3.trans (hb4.mono hB3.size)
  have HO4 := Lib.hid (own_below HO3.out hb4)
  have hg4 : gb < w4.heap.size := (HO4.out.lt gb rfl).2
  have HB4 := Lib.hid hB4
  have Hmade := Lib.hid (made_linksD w4)
  have Hm0 : Hid (Below w4.heap.size w4 (w4.alloc (.cells #[] TL))) := (Below.refl _ _).alloc (Nat.le_refl _) _
  have hP1n : ((P : Int) == 0) = false := by rw [beq_eq_false_iff_ne]; omega
  clear hb4 hB1 hB2 hB3 hB4 HL1 HL2 HL3 HI22 HI23 HI33 HO2 HO3 hlen
  go_wp2
  go_loopw [6, 7] (fun u i wr => ∃ k : Nat, k ≤ ls.length ∧ i = .int .i64 k ∧ (∃ ao cp, u = .slice ao k cp) ∧ wr.ownsRow w4.heap.size TL 3 u k (lcells (ls.take k).reverse) ∧ Below w4.heap.size w4 wr) (fun _ i _ => ls.length - (intOf i).toNat)
  case atStart => exact ⟨0, Nat.zero_le _, rfl, ⟨_, _, rfl⟩, Hmade.out, Hm0.out⟩
  case round =>
    obtain ⟨k, hk, rfl, ⟨ao, cp, rfl⟩, hown, hbel⟩ := hrel
    by_cases hlt : k < ls.length
    · obtain ⟨ao', cap', hv', _, _, _, hc0⟩ := HL4.out
      obtain ⟨b, off, hao, hb, hc1, hc2, hc3⟩ := hc0 k hlt
      injection hv' with hv1 hv2 hv3
      subst hv1 hv3
      subst hao
      have hd1 := hc1
      have hd2 := hc2
      rw [← hbel.cell (p := ⟨b, _, none⟩) (show b < _ by omega)] at hc1 hc2 hc3
      have hbt := Hbt.out k hlt
      obtain ⟨a, c, ha, hc, haP, hcP, hac⟩ := Hsame.out k hlt
      have hlk : (ls.take k).reverse.length = k := by simp; omega
      have hrd := RdLinks.of_own (sp := (ls.take k).reverse) (by rw [hlk]; exact hown) (fun l hl => Hl64.out l (List.mem_of_mem_take (List.mem_reverse.1 hl)))
      clear hc0 hv2
      generalize ls.getD k lk0 = l at *
      obtain ⟨la, lb, lt⟩ := l
      dsimp only at hc1 hc2 hc3 hd1 hd2 ha hc
      subst ha hc
      have hbw := hbel.size
      generalize (ls.take k).reverse = bk at *
      have hnew := own_newL wr w4.heap.size (a : Int) (c : Int) lt hbw
      have hbn : Below wr.heap.size wr (wr.alloc (.cells #[.int .i64 (a : Int), .int .i64 (c : Int), .bool lt] TL)) := (Below.refl _ _).alloc (Nat.le_refl _) _
      have Hrd := Lib.hid (hrd.below (w' := wr.alloc (.cells #[.int .i64 (a : Int), .int .i64 (c : Int), .bool lt] TL)) hbn.block)
      have Hnew := Lib.hid hnew
      have Hbn := Lib.hid (hbel.trans (hbn.mono hbw))
      have Hbt2 := Lib.hid hbt
      have hga := HO4.out.cellAt a (by omega)
      have hgc := HO4.out.cellAt c (by omega)
      rw [Hat.out a (by rw [Hlen.out]; exact haP)] at hga
      rw [Hat.out c (by rw [Hlen.out]; exact hcP), ← hac] at hgc
      have hk8 : bk.length ≤ 8 := by omega
      clear hrd hnew hbn hbt hac hown hbel
      generalize r.getD a 0 = A at *
      go_wp2_with (first
        | (at_builtin; refine wpList_append_links rfl (.tmp 47) (.tmp 48) rfl Hi.out Hz0.out Hz1.out Hz2.out rfl rfl Hnew.out Hrd.out (by omega) (by simp; omega) ?_
           go_must (intro v7 w7 hown7 hgr7 _
                    have hb7 := below_gL Hbn.out hgr7 (by simp; omega) (fun q hq => (Hnew.out.lt q hq).1)
                    have hs7 := hb7.size
                    rw [lcells_consD, ← Hbt2.out, hlk, Nat.add_comm 1 k] at hown7
                    obtain ⟨fo, fc, hv7⟩ := own_len hown7
                    subst hv7
                    have e1 := (hb7.cell (p := ⟨b, off + k * 3, none⟩) (by show b < _; omega)).trans hd1
                    have e2 := (hb7.cell (p := ⟨b, off + k * 3 + 1, none⟩) (by show b < _; omega)).trans hd2
                    have e4 := (hb7.cell (p := ⟨gb, a, none⟩) (by show gb < _; omega)).trans hga
                    have e5 := (hb7.cell (p := ⟨gb, c, none⟩) (by show gb < _; omega)).trans hgc
                    have Hown7 := Lib.hid hown7
                    have Hb7 := Lib.hid hb7
                    clear hown7 hgr7 hb7))
        | fail)
      clear hc1 hc2 hc3 hd1 hd2 hga hgc Hnew Hrd Hbn
      have hAA : ((A : Int) != (A : Int)) = false := by simp
      first
        | go_quiet (fail)
        | fail
      all_goals go_wp2
      all_goals
        go_roundw
        case rel => exact ⟨k + 1, by omega, by go_num, ⟨fo, fc, rfl⟩, by first | exact Hown7.out | exact own_drewU Hown7.out _, by first | exact Hb7.out | exact below_drew1 Hb7.out | exact below_drewN Hb7.out _⟩
        case measure => simp [intOf]; omega
    · obtain rfl : k = ls.length := by omega
      have HT := Lib.hid (RdLinks.of_own (sp := ls.reverse) (by rw [List.length_reverse, ← Hbe.out]; exact hown) (fun l hl => Hl64.out l (List.mem_reverse.1 hl)))
      obtain ⟨wb, rfl⟩ : ∃ wb : World, wb = wr := ⟨_, rfl⟩
      have HOb := Lib.hid (own_below HO4.out hbel)
      have HB5 := Lib.hid (HB4.out.trans (hbel.mono HB4.out.size))
      clear hown hbel
      go_wp2
      go_loopw [8] (fun i ws => ∃ j : Nat, j ≤ P ∧ i = .int .i64 j ∧ Below wb.heap.size wb ws) (fun i _ => P - (intOf i).toNat)
      case atStart => exact ⟨0, Nat.zero_le _, rfl, Below.refl _ _⟩
      case round =>
        obtain ⟨j, hj, rfl, hbs⟩ := hrel
        have Hbs := Lib.hid hbs
        have HOw := Lib.hid (own_below HOb.out hbs)
        clear hbs
        by_cases hlj : j < P
        · obtain ⟨z1, z2⟩ := Hcan.out j hlj
          have hg1 := HOw.out.cellAt j (by omega)
          rw [Hat.out j (by rw [Hlen.out]; exact hlj)] at hg1
          generalize r.getD j 0 = z at *
          have hg2 := HOw.out.cellAt z (by omega)
          rw [Hat.out z (by rw [Hlen.out]; omega), z2] at hg2
          have hzj : decide ((j : Int) < (z : Int)) = false := decide_eq_false (by omega)
          have hzj2 : decide (j < z) = false := decide_eq_false (by omega)
          have hz0 : (0 : Int) ≤ (z : Int) := by omega
          have hzP : (z : Int) < (P : Int) := by omega
          have hzP2 : z < P := by omega
          have hzz : ((z : Int) != (z : Int)) = false := by simp
          clear z2
          go_wp2_with fail
          go_region_held3 (fun w' => w'.cell? ⟨gb, j, none⟩ = some (.int .i64 (z : Int)) ∧ w'.cell? ⟨gb, z, none⟩ = some (.int .i64 (z : Int)))
            (first | (refine ⟨?_, ?_⟩ <;> first | assumption | go_keep) | assumption)
            (fail)
          all_goals go_wp2
          all_goals
            go_roundw
            case rel => exact ⟨j + 1, by omega, by go_num, by first | exact Hbs.out | exact below_drew1 Hbs.out | exact below_drewN Hbs.out _⟩
            case measure => simp [intOf]; omega
        · obtain rfl : j = P := by omega
          have HT5 := Lib.hid ((HT.out.below (w' := wr) Hbs.out.block).mono Hbs.out.size)
          have HI5 := Lib.hid (rdI12 (r := r) (by rw [Hlen.out]; exact HOw.out))
          have HBr := Lib.hid (HB5.out.trans (Hbs.out.mono HB5.out.size))
          go_wp2_with fail
          refine (Hgi2.out _ _ _ HT5.out (Nat.le_refl _)).mono ?_
          rintro e w9 ⟨u9, rfl, ho9, hb9⟩
          have HI9 := Lib.hid (rdI12 ho9)
          have HI59 := Lib.hid ((HI5.out.below (w' := w9) hb9.block).mono hb9.size)
          have HB9 := Lib.hid (HBr.out.trans (hb9.mono HBr.out.size))
          clear ho9 hb9
          go_wp2_with fail
          refine (sameInts (nums r) (nums r) _ _ _ _ _ HI9.out HI59.out).mono ?_
          rintro e w10 ⟨rfl, n10, hw10⟩
          have hb10 : Below w9.heap.size w9 w10 := by rw [← hw10]; exact below_drewN (Below.refl _ _) _
          clear hw10
          rw [show decide (nums r = nums r) = true from by simp]
          have HB10 := Lib.hid (HB9.out.trans (hb10.mono HB9.out.size))
          clear hb10
          go_wp2
          go_ret
          exact ⟨rfl, HB10.out⟩

set_option maxRecDepth 100000 in
theorem lifted (os : Os) (started : os.Started) (H : Type) (enc : TypeId × Value → H) :
    ReturnsInHanded {} Try.checked os 6 .any (Rows.fnLinkGroupsSpec.pre6 enc Try.prog Try.f6 Rows.fnLinkGroupsRow.domain false) (Rows.fnLinkGroupsSpec.post enc Try.prog Try.f6 false true false false) := by
  refine returnsInHanded_of_change (C := Try.checked) Try.own started (by kernel_rfl) Try.func6
    (ChangeSpec.witness6 (enc := enc) (C := Try.checked) false ⟨#[], #[.slice none 0 0], []⟩ 8 (by kernel_rfl) (by kernel_rfl) (by kernel_rfl) (by kernel_rfl)) ?_
  intro W base args ds gs before hval0 hW hcnd _
  have hval : ∀ (j : Nat) t v, Try.f6.params[j]? = some t → args[j]? = some v → Value.okWide Try.prog W .any base t v := hval0
  have hW' := hW
  obtain ⟨p, q, hA0, hV, rfl, hfz, hnd⟩ := hW
  have hA : DataW.TrodAll enc Try.prog W 0 (fun _ => true) true Try.f6.params.toList args.toList ds p := hA0
  rw [Try.params6] at hA hval
  obtain ⟨v0, vs0, d0, ds0, p0, q0, hargs, rfl, rfl, h0, r0⟩ := trodAll_cons hA
  obtain ⟨rfl, rfl, rfl⟩ := trodAll_nil r0
  obtain rfl : args = #[v0] := by cases args; simp_all
  obtain ⟨rfl, rfl⟩ := trodVars_none hV
  obtain ⟨a0, len0, cap0, rfl⟩ := okWide_slice Try.underlying22 (hval 0 22 v0 rfl rfl)
  have k0 := h0
  have lt0 : ∀ x ∈ p0, x.block < W.heap.size := by obtain ⟨m, hm⟩ := k0; exact DataW.trod_lt m _ _ _ hm
  obtain ⟨z0, w0⟩ : ∃ zs, IsRow .u8 W a0 len0 cap0 zs := by
    obtain ⟨fuel, hf⟩ := h0
    rcases open_ints Try.underlying22 Try.underlying5 (by kernel_rfl) hf with ⟨hcs, _⟩ | ⟨x, l, c, zs, hcs, _, hl, hm, hz, _, hcell, hwz⟩
    · simp [Value.cells] at hcs
      obtain ⟨rfl, rfl, rfl⟩ := hcs
      exact ⟨[], .inl ⟨rfl, rfl, rfl, rfl⟩⟩
    · simp [Value.cells] at hcs
      obtain ⟨rfl, rfl, rfl⟩ := hcs
      exact ⟨zs, .inr ⟨_, rfl, hl, hm, by simpa using hz, hcell, hwz⟩⟩
  clear hA0 hval0
  refine (walk _ _ W (RdBytes.of_row w0)).mono fun e W' ⟨he, bel⟩ => ?_
  subst he
  exact ⟨_, rfl, _, _, _, [], _, [], hW', trodAll_mk1 (shut_bool Try.underlying4 _), (trodAll_cons_mk (Below.trod Try.laidOut (by kernel_rfl) (of_decide_eq_true (by kernel_rfl)) k0 bel lt0) trodAll_mk0), rfl, bel.frame _, fun h => by cases h⟩

theorem closed : joinedFacts Try.pinned.checked.prog 6 Try.f6 Rows.fnLinkGroupsSpec Rows.fnLinkGroupsRow = true := by
  unfold joinedFacts
  exact (and_tt (and_tt (and_tt (and_tt (and_tt (and_tt (and_tt (and_tt (and_tt (and_tt (and_tt (and_tt (and_tt (and_tt (and_tt (and_tt (and_tt (and_tt (and_tt (and_tt (and_tt (and_tt (and_tt (and_tt (and_tt (and_tt (and_tt (and_tt (and_tt (and_tt (and_tt (by kernel_rfl) (by kernel_rfl)) (by kernel_rfl)) (by kernel_rfl)) (by kernel_rfl)) (by kernel_rfl)) (by kernel_rfl)) (by kernel_rfl)) (by kernel_rfl)) (by kernel_rfl)) (by kernel_rfl)) (by kernel_rfl)) (by kernel_rfl)) (by kernel_rfl)) (by kernel_rfl)) (by kernel_rfl)) (by kernel_rfl)) (by kernel_rfl)) (by kernel_rfl)) (by kernel_rfl)) (by kernel_rfl)) (by kernel_rfl)) (by kernel_rfl)) (by kernel_rfl)) (by kernel_rfl)) Try.mayEnter0) (lifted_tt Try.lifts0 rfl)) (make_tt Try.make0 rfl)) (by kernel_rfl)) (by kernel_rfl)) (by kernel_rfl)) (by kernel_rfl))
theorem over : Rows.fnLinkGroupsRow.holds Try.pinned (OpenSpec.ofChange Rows.fnLinkGroupsSpec) :=
  OpenClaim.holds_of_wide 6 Try.f6 rfl rfl rfl rfl rfl rfl rfl ⟨rfl, rfl, rfl, rfl, rfl⟩ rfl rfl rfl rfl rfl (by kernel_rfl) Try.func6 closed
    (of_decide_eq_true (by kernel_rfl)) (by unfold Func.isWrapper; first | (rw [if_pos (by decide +kernel)]; kernel_rfl) | (rw [if_neg (by decide +kernel)]; exact ⟨rfl, rfl⟩))
    (fun os started H enc _ => lifted os started H enc)

theorem proved : Rows.FnLinkGroupsSaid := over
end Go.Proofs.Ythiabicleedleaa.fnLinkGroups


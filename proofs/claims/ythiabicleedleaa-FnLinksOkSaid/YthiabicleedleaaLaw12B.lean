/- A law of stage 12: no links are links, and those turned round are some if they are. It answers true, whatever the code. No condition. -/
import Derived.Test.YthiabicleedleaaMerged19
import Derived.Test.YthiabicleedleaaMerged20
import Derived.Test.YthiabicleedleaaClaimI
import Derived.Test.YthiabicleedleaaMerged14
import Derived.Test.YthiabicleedleaaOneI
import Derived.Test.YthiabicleedleaaMerged4
import Derived.Test.YthiabicleedleaaMerged6
import Derived.Test.YthiabicleedleaaMerged18
import Derived.Deep.RegionHeld3
import Derived.Deep.Cut
import Derived.Test.YthiabicleedleaaLinkA
import Derived.Test.YthiabicleedleaaOneU
namespace Go.Proofs.Ythiabicleedleaa
open Go.RowKit Go.Joins
theorem made_links (w : World) : (w.alloc (.cells #[] TL)).ownsRow w.heap.size TL 3 (.slice (some ⟨w.heap.size, 0, none⟩) 0 0) 0 (lcells []) := World.ownsRow_made _ _ 0 (Nat.le_refl _) (by unfold maxLen; omega) rfl
def turnL (l : Lk) : Lk := (l.2.1, l.1, l.2.2)
theorem turn_ok (p : Int) (ls : List Lk) : linksOk p (ls.map turnL) = linksOk p ls := by
  rw [Bool.eq_iff_iff, linksOk_iff, linksOk_iff]
  constructor
  · rintro ⟨h1, h2, h3, h4⟩
    refine ⟨fun l hl => ?_, h2, h3, by simpa using h4⟩
    obtain ⟨a, b, c, d⟩ := h1 (turnL l) (List.mem_map.2 ⟨l, hl, rfl⟩)
    exact ⟨c, d, a, b⟩
  · rintro ⟨h1, h2, h3, h4⟩
    refine ⟨fun m hm => ?_, h2, h3, by simpa using h4⟩
    obtain ⟨l, hl, rfl⟩ := List.mem_map.1 hm
    obtain ⟨a, b, c, d⟩ := h1 l hl
    exact ⟨c, d, a, b⟩
theorem turn_take (ls : List Lk) (k : Nat) (hk : k < ls.length) : (ls.map turnL).take (k + 1) = (ls.map turnL).take k ++ [turnL (ls.getD k lk0)] := by
  rw [List.take_succ_eq_append_getElem (by simpa using hk)]
  simp [List.getD, hk]
theorem links_nil {p : Int} (h1 : 1 ≤ p) (h4 : p ≤ 4) : linksOk p [] = true := linksOk_iff.2 ⟨fun l hl => by simp at hl, h1, h4, by simp⟩
theorem links_far {p : Int} (ls : List Lk) (h : ¬ (1 ≤ p ∧ p ≤ 4)) : linksOk p ls = false := by
  cases hk : linksOk p ls with
  | false => rfl
  | true =>
    obtain ⟨_, h1, h4, _⟩ := linksOk_iff.1 hk
    exact absurd ⟨h1, h4⟩ h
theorem rdLinks_nil (W : World) (B : Nat) (a : Option Addr) : RdLinks W B (.slice a 0 0) [] :=
  ⟨a, 0, rfl, Nat.le_refl _, by unfold maxLen; omega, fun q hq => by simp at hq, fun j hj => by simp at hj⟩
theorem links_emptyB (p : Int) (h1 : 1 ≤ p) (h4 : p ≤ 4) (a : Option Addr) (w : World) : Calls Try.prog 20 #[.int .i64 p, .slice a 0 0] w fun e w' => e = .returned (.bool true) ∧ Below w.heap.size w w' := by
  have h := implLinksOk p [] 0 (.slice a 0 0) w (rdLinks_nil w 0 a) (Nat.zero_le _)
  rw [links_nil h1 h4] at h
  exact h
end Go.Proofs.Ythiabicleedleaa
namespace Go.Proofs.Ythiabicleedleaa.fnLinksOk
open Go.ChangeShapes Go.WideShapes Go.ChangeAt Go.RowKit Go.Joins
attribute [local irreducible] holds tabN tabV holdsV sameV followsV alwaysV matterV mirV mirOk mcells tmOf claimOk mayT mayV ctabV ctabN storyV storyOk storyN storyT ctermV ctermL denyV denyOk ccells onlyOk onlyN swl linksOk linkS linkC grpF grpL lwV lcells opt
open Go.ChangeMaps (open_string shut_string)
set_option linter.unusedVariables false
set_option maxRecDepth 100000 in
set_option maxHeartbeats 8000000 in
theorem walk (a0 : Value) (n0 : Nat) (w : World) (w0 : RdBytes w w.heap.size a0 n0) :
    Calls Try.prog 4 #[a0] w fun e w' => e = .returned (.bool true) ∧ Below w.heap.size w w' := by
  have hr := w0
  by_cases hbig : n0 ≤ 1048576
  case neg =>
    obtain ⟨ao, cap, rfl, hl, hm, hc⟩ := w0
    have hbig' := code_big hbig
    unfold maxLen at hm
    clear hc hr hbig
    go_enter Try.func4, Try.ntmps4
    go_wp2
    go_ret
    exact ⟨rfl, Below.refl _ _⟩
  have hbig' : (n0 : Int) ≤ 1048576 := by omega
  clear hbig
  obtain ⟨ao, cap, rfl, hl, hm, hc⟩ := w0
  have Hr := Lib.hid hr
  clear hc hr hl hm
  go_enter Try.func4, Try.ntmps4
  go_wp2_with fail
  refine (drawLinksOk _ _ _ Hr.out).mono ?_
  rintro e w1 ⟨p, v, ls, hp0, hp8, rfl, hown, hls, hl8, hB1⟩
  have HL1 := Lib.hid (RdLinks.of_own hown hls.i64)
  obtain ⟨lo, lc, hvf⟩ := own_len hown
  subst hvf
  have hlc : ls.length ≤ lc := by
    obtain ⟨_, _, h, h1, _⟩ := HL1.out
    injection h with _ _ h3
    omega
  clear hown
  have hli := fun B u W h h2 => implLinksOk p ls B u W h h2
  by_cases hp : 1 ≤ p ∧ p ≤ 4
  case neg =>
    have hf := links_far ls hp
    rw [hf] at hli
    have hsi2 := fun B u W h => specLinksOk p ls B u W h
    rw [hf] at hsi2
    have Hli := Lib.hid hli
    have Hsi := Lib.hid hsi2
    clear hli hsi2 hf hls
    go_wp2_with fail
    refine (Hli.out _ _ _ HL1.out (Nat.le_refl _)).mono ?_
    rintro e w2 ⟨rfl, hb2⟩
    have HL2 := Lib.hid ((HL1.out.below (w' := w2) hb2.block).mono hb2.size)
    have hB2 : Below w.heap.size w w2 := hB1.trans (hb2.mono hB1.size)
    clear hb2
    go_wp2_with fail
    refine (Hsi.out _ _ _ HL2.out).mono ?_
    rintro e w' ⟨rfl, rfl⟩
    by_cases hlt : p < 1
    · clear hp
      go_wp2_with fail
      refine (alive _).mono ?_
      rintro e w' ⟨rfl, rfl⟩
      go_wp2
      go_ret
      exact ⟨rfl, hB2⟩
    · have hgt : 4 < p := by omega
      clear hp
      go_wp2_with fail
      refine (alive _).mono ?_
      rintro e w' ⟨rfl, rfl⟩
      go_wp2
      go_ret
      exact ⟨rfl, hB2⟩
  obtain ⟨hp1, hp4⟩ := hp
  have hn1 : ¬ p < 1 := by omega
  have hn4 : ¬ 4 < p := by omega
  have hlt := fun B u W h h2 => implLinksOk p (ls.map turnL) B u W h h2
  rw [turn_ok] at hlt
  have Hne := Lib.hid (links_emptyB p hp1 hp4)
  have hsi2 := fun B u W h => specLinksOk p ls B u W h
  generalize linksOk p ls = o at *
  have Hli := Lib.hid hli
  have Hsi := Lib.hid hsi2
  have Hlt := Lib.hid hlt
  have Htk := Lib.hid (fun k hk => turn_take ls k hk)
  have Hta : Hid ((ls.map turnL).take ls.length = ls.map turnL) := by unfold Hid; rw [List.take_of_length_le (by simp)]
  have Hml : Hid ((ls.map turnL).length = ls.length) := by unfold Hid; simp
  have Htl : Hid (L64 (ls.map turnL)) := fun m hm => by
    obtain ⟨l, hl, rfl⟩ := List.mem_map.1 hm
    have := hls.i64 l hl
    exact ⟨this.2, this.1⟩
  have hoo : (o != o) = false := by simp
  obtain ⟨ii, hi, hz0, hz1, hz2⟩ := info_parts Try.infoL
  have Hi := Lib.hid hi; clear hi
  have Hz0 := Lib.hid hz0; clear hz0
  have Hz1 := Lib.hid hz1; clear hz1
  have Hz2 := Lib.hid hz2; clear hz2
  clear hli hsi2 hlt hls hp0 hp8
  go_wp2_with fail
  refine (Hli.out _ _ _ HL1.out (Nat.le_refl _)).mono ?_
  rintro e w2 ⟨rfl, hb2⟩
  have HL2 := Lib.hid ((HL1.out.below (w' := w2) hb2.block).mono hb2.size)
  have hB2 : Below w.heap.size w w2 := hB1.trans (hb2.mono hB1.size)
  clear hb2
  go_wp2_with fail
  refine (Hsi.out _ _ _ HL2.out).mono ?_
  rintro e w' ⟨rfl, rfl⟩
  have hown0 : (w2.alloc (.cells #[] TL)).ownsRow w2.heap.size TL 3 (.slice (some ⟨w2.heap.size, 0, none⟩) 0 0) 0 (lcells []) := made_links w2
  have hb0 : Below w2.heap.size w2 (w2.alloc (.cells #[] TL)) := (Below.refl _ _).alloc (Nat.le_refl _) _
  have Hown0 := Lib.hid hown0
  have Hb0 := Lib.hid hb0
  have HB2 := Lib.hid hB2
  clear hown0 hb0 hB1 hB2 HL1
  go_wp2
  go_loopw [6, 7] (fun u i wr => ∃ k : Nat, k ≤ ls.length ∧ i = .int .i64 k ∧ (∃ ao cp, u = .slice ao k cp) ∧ wr.ownsRow w2.heap.size TL 3 u k (lcells ((ls.map turnL).take k)) ∧ Below w2.heap.size w2 wr) (fun _ i _ => ls.length - (intOf i).toNat)
  case atStart => exact ⟨0, Nat.zero_le _, rfl, ⟨_, _, rfl⟩, Hown0.out, Hb0.out⟩
  case round =>
    obtain ⟨k, hk, rfl, ⟨ao, cp, rfl⟩, hown, hbel⟩ := hrel
    by_cases hlt : k < ls.length
    · obtain ⟨ao', cap', hv', _, _, _, hc0⟩ := HL2.out
      obtain ⟨b, off, hao, hb, hc1, hc2, hc3⟩ := hc0 k hlt
      injection hv' with hv1 hv2 hv3
      subst hv1 hv3
      subst hao
      rw [← hbel.cell (p := ⟨b, _, none⟩) (show b < _ by omega)] at hc1 hc2 hc3
      have htk := Htk.out k hlt
      clear hc0 hv2
      generalize ls.getD k lk0 = l at *
      obtain ⟨la, lb, lt⟩ := l
      unfold turnL at htk
      dsimp only at hc1 hc2 hc3 htk
      rw [show (fun l : Lk => (l.2.1, l.1, l.2.2)) = turnL from rfl] at htk
      have Htk2 := Lib.hid htk
      have hbw := hbel.size
      have Hown := Lib.hid hown
      have Hbel := Lib.hid hbel
      clear htk hown hbel
      go_wp2_with fail
      go_region_held3 (fun w' => w'.cell? ⟨b, off + k * 3, none⟩ = some (.int .i64 la) ∧ w'.cell? ⟨b, off + k * 3 + 1, none⟩ = some (.int .i64 lb) ∧ w'.cell? ⟨b, off + k * 3 + 2, none⟩ = some (.bool lt))
        (first | (refine ⟨?_, ?_, ?_⟩ <;> first | assumption | go_keep) | assumption)
        (first
          | (refine app_own (by rfl) (.tmp 42) (.tmp 59) TLs TL w2.heap.size 3 24 (.agg #[.int .i64 0, .int .i64 0, .bool false]) (by rfl) Try.underlying43 Hi.out Hz0.out Hz1.out Hz2.out rfl (by decide) (by rfl) (by rfl) (by first | exact Hown.out.alloc _ | exact own_drewU (Hown.out.alloc _) _) (m := 1) (news := lcells [(lb, la, lt)]) (by rw [lcells_length]; rfl) (by first | exact newsL _ _ rfl _ _ _) (lcells_one _) (by unfold maxLen; omega) (by omega) (by simp; omega) ?_
             go_must (intro v10 w10 hown10 hgr10 _
                      have hgr : (wr.alloc (.cells #[.int .i64 lb, .int .i64 la, .bool lt] TL)).grownBy w10 (Value.slice ao k cp).ownBlock := by first | exact hgr10 | exact grownBy_drew0 hgr10 | exact grownBy_drewX hgr10
                      obtain ⟨fo, fc, hv10⟩ := own_len hown10
                      subst hv10
                      have hb10 := below_gL (Hbel.out.alloc hbw _) hgr (by simp; omega) (fun q hq => (Hown.out.lt q hq).1)
                      have e1 := (hb10.cell (p := ⟨b, off + k * 3, none⟩) (by show b < _; omega))
                      have e2 := (hb10.cell (p := ⟨b, off + k * 3 + 1, none⟩) (by show b < _; omega))
                      have e3 := (hb10.cell (p := ⟨b, off + k * 3 + 2, none⟩) (by show b < _; omega))
                      rw [← Hbel.out.cell (p := ⟨b, _, none⟩) (show b < _ by omega), hc1] at e1
                      rw [← Hbel.out.cell (p := ⟨b, _, none⟩) (show b < _ by omega), hc2] at e2
                      rw [← Hbel.out.cell (p := ⟨b, _, none⟩) (show b < _ by omega), hc3] at e3
                      rw [← lcells_append] at hown10
                      have Hb10 := Lib.hid hb10
                      have Hown10 := Lib.hid hown10
                      clear hown10 hgr10 hgr hb10))
          | fail)
      all_goals
        go_wp2
        go_roundw
        case rel => exact ⟨k + 1, by omega, by go_num, ⟨fo, fc, rfl⟩, by rw [Htk2.out]; exact Hown10.out, Hb10.out⟩
        case measure => simp [intOf]; omega
    · obtain rfl : k = ls.length := by omega
      have HT := Lib.hid (RdLinks.of_own (sp := ls.map turnL) (by rw [Hml.out, ← Hta.out]; exact hown) Htl.out)
      have Hbel := Lib.hid hbel
      clear hown hbel
      go_wp2_with fail
      refine (Hne.out _ _).mono ?_
      rintro e w5 ⟨rfl, hb5'⟩
      have hb5 : Below wr.heap.size wr w5 := ((Below.refl _ _).alloc (Nat.le_refl _) _).trans (hb5'.mono (by simp))
      have HT5 := Lib.hid ((HT.out.below (w' := w5) hb5.block).mono hb5.size)
      have hb25 := Hbel.out.trans (hb5.mono Hbel.out.size)
      have hB5 : Below w.heap.size w w5 := HB2.out.trans (hb25.mono HB2.out.size)
      clear hb5 hb5' hb25
      go_wp2_with fail
      refine (Hlt.out _ _ _ HT5.out (Nat.le_refl _)).mono ?_
      rintro e w6 ⟨rfl, hb6⟩
      have hB6 : Below w.heap.size w w6 := hB5.trans (hb6.mono hB5.size)
      clear hb6
      cases o with
      | false =>
        go_wp2_with fail
        refine (alive _).mono ?_
        rintro e w' ⟨rfl, rfl⟩
        go_wp2
        go_ret
        exact ⟨rfl, hB6⟩
      | true =>
        go_wp2_with fail
        refine (alive _).mono ?_
        rintro e w' ⟨rfl, rfl⟩
        go_wp2
        go_ret
        exact ⟨rfl, hB6⟩

set_option maxRecDepth 100000 in
theorem lifted (os : Os) (started : os.Started) (H : Type) (enc : TypeId × Value → H) :
    ReturnsInHanded {} Try.checked os 4 .any (Rows.fnLinksOkSpec.pre6 enc Try.prog Try.f4 Rows.fnLinksOkRow.domain false) (Rows.fnLinksOkSpec.post enc Try.prog Try.f4 false true false false) := by
  refine returnsInHanded_of_change (C := Try.checked) Try.own started (by kernel_rfl) Try.func4
    (ChangeSpec.witness6 (enc := enc) (C := Try.checked) false ⟨#[], #[.slice none 0 0], []⟩ 8 (by kernel_rfl) (by kernel_rfl) (by kernel_rfl) (by kernel_rfl)) ?_
  intro W base args ds gs before hval0 hW hcnd _
  have hval : ∀ (j : Nat) t v, Try.f4.params[j]? = some t → args[j]? = some v → Value.okWide Try.prog W .any base t v := hval0
  have hW' := hW
  obtain ⟨p, q, hA0, hV, rfl, hfz, hnd⟩ := hW
  have hA : DataW.TrodAll enc Try.prog W 0 (fun _ => true) true Try.f4.params.toList args.toList ds p := hA0
  rw [Try.params4] at hA hval
  obtain ⟨v0, vs0, d0, ds0, p0, q0, hargs, rfl, rfl, h0, r0⟩ := trodAll_cons hA
  obtain ⟨rfl, rfl, rfl⟩ := trodAll_nil r0
  obtain rfl : args = #[v0] := by cases args; simp_all
  obtain ⟨rfl, rfl⟩ := trodVars_none hV
  obtain ⟨a0, len0, cap0, rfl⟩ := okWide_slice Try.underlying22 (hval 0 22 v0 rfl rfl)
  have k0 := h0
  have lt0 : ∀ x ∈ p0, x.block < W.heap.size := by obtain ⟨m, hm⟩ := k0; exact DataW.trod_lt m _ _ _ hm
  obtain ⟨z0, w0⟩ : ∃ zs, IsRow .u8 W a0 len0 cap0 zs := by
    obtain ⟨fuel, hf⟩ := h0
    rcases open_ints Try.underlying22 Try.underlying5 (by kernel_rfl) hf with ⟨hcs, _⟩ | ⟨x, l, c, zs, hcs, _, hl, hm, hz, _, hcell, hwz⟩
    · simp [Value.cells] at hcs
      obtain ⟨rfl, rfl, rfl⟩ := hcs
      exact ⟨[], .inl ⟨rfl, rfl, rfl, rfl⟩⟩
    · simp [Value.cells] at hcs
      obtain ⟨rfl, rfl, rfl⟩ := hcs
      exact ⟨zs, .inr ⟨_, rfl, hl, hm, by simpa using hz, hcell, hwz⟩⟩
  clear hA0 hval0
  refine (walk _ _ W (RdBytes.of_row w0)).mono fun e W' ⟨he, bel⟩ => ?_
  subst he
  exact ⟨_, rfl, _, _, _, [], _, [], hW', trodAll_mk1 (shut_bool Try.underlying4 _), (trodAll_cons_mk (Below.trod Try.laidOut (by kernel_rfl) (of_decide_eq_true (by kernel_rfl)) k0 bel lt0) trodAll_mk0), rfl, bel.frame _, fun h => by cases h⟩

theorem closed : joinedFacts Try.pinned.checked.prog 4 Try.f4 Rows.fnLinksOkSpec Rows.fnLinksOkRow = true := by
  unfold joinedFacts
  exact (and_tt (and_tt (and_tt (and_tt (and_tt (and_tt (and_tt (and_tt (and_tt (and_tt (and_tt (and_tt (and_tt (and_tt (and_tt (and_tt (and_tt (and_tt (and_tt (and_tt (and_tt (and_tt (and_tt (and_tt (and_tt (and_tt (and_tt (and_tt (and_tt (and_tt (and_tt (by kernel_rfl) (by kernel_rfl)) (by kernel_rfl)) (by kernel_rfl)) (by kernel_rfl)) (by kernel_rfl)) (by kernel_rfl)) (by kernel_rfl)) (by kernel_rfl)) (by kernel_rfl)) (by kernel_rfl)) (by kernel_rfl)) (by kernel_rfl)) (by kernel_rfl)) (by kernel_rfl)) (by kernel_rfl)) (by kernel_rfl)) (by kernel_rfl)) (by kernel_rfl)) (by kernel_rfl)) (by kernel_rfl)) (by kernel_rfl)) (by kernel_rfl)) (by kernel_rfl)) (by kernel_rfl)) Try.mayEnter0) (lifted_tt Try.lifts0 rfl)) (make_tt Try.make0 rfl)) (by kernel_rfl)) (by kernel_rfl)) (by kernel_rfl)) (by kernel_rfl))
theorem over : Rows.fnLinksOkRow.holds Try.pinned (OpenSpec.ofChange Rows.fnLinksOkSpec) :=
  OpenClaim.holds_of_wide 4 Try.f4 rfl rfl rfl rfl rfl rfl rfl ⟨rfl, rfl, rfl, rfl, rfl⟩ rfl rfl rfl rfl rfl (by kernel_rfl) Try.func4 closed
    (of_decide_eq_true (by kernel_rfl)) (by unfold Func.isWrapper; first | (rw [if_pos (by decide +kernel)]; kernel_rfl) | (rw [if_neg (by decide +kernel)]; exact ⟨rfl, rfl⟩))
    (fun os started H enc _ => lifted os started H enc)

theorem proved : Rows.FnLinksOkSaid := over
end Go.Proofs.Ythiabicleedleaa.fnLinksOk


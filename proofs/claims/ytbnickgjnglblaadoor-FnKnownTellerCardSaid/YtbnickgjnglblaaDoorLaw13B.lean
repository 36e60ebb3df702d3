/- A law of stage 13: who is known stays known. It answers true, whatever the code. No condition. -/
import Derived.Test.YtbnickgjnglblaaDoorMerged9
import Derived.Test.YtbnickgjnglblaaDoorMerged14
import Derived.Test.YtbnickgjnglblaaDoorMerged10
import Derived.Test.YtbnickgjnglblaaDoorMerged2
import Derived.Deep.RegionHeld3
import Derived.Deep.Cut
namespace Go.Proofs.YtbnickgjnglblaaDoor
open Go.RowKit Go.Joins
theorem own_len13 {w : World} {base n size : Nat} {e : TypeId} {v : Value} {xs : List Value} (h : w.ownsRow base e size v n xs) : ∃ ao cp, v = .slice ao n cp := by
  rcases h.2 with ⟨rfl, rfl⟩ | ⟨g, cap, cur, rfl, _⟩
  · exact ⟨_, _, rfl⟩
  · exact ⟨_, _, rfl⟩
theorem vals_len13 (l : List Nat) : (vals l).length = l.length := by simp [vals]
theorem vals_one13 (l : List Nat) : ∀ u ∈ vals l, u.oneCell' = true := by
  intro u hu
  unfold vals at hu
  obtain ⟨i, _, rfl⟩ := List.mem_map.1 hu
  rfl
theorem own_take13 {w : World} {base g n c : Nat} {l : List Nat} (h : w.ownsRow base 3 1 (.slice (some ⟨g, 0, none⟩) n c) n (vals l)) (hl : l.length = n) : ∀ (j : Nat) (x : Value), (vals l.dropLast)[j]? = some x → w.cell? ((⟨g, 0, none⟩ : Addr).add j) = some x := by
  intro j x hx
  have hj : j < (vals l.dropLast).length := by
    by_cases hlt : j < (vals l.dropLast).length
    · exact hlt
    · rw [List.getElem?_eq_none (by omega)] at hx; cases hx
  rw [vals_len13, List.length_dropLast] at hj
  have h1 := h.cellAt j (by omega)
  have e : (vals l)[j]? = some x := by
    rw [← hx]
    unfold vals
    rw [List.getElem?_map, List.getElem?_map, List.getElem?_dropLast, if_pos hj]
  rw [← e, ← h1, Addr.add_lit, Nat.zero_add]
end Go.Proofs.YtbnickgjnglblaaDoor
namespace Go.Proofs.YtbnickgjnglblaaDoor.fnKnownTeller
open Go.ChangeShapes Go.WideShapes Go.ChangeAt Go.RowKit Go.Joins
attribute [local irreducible] heads turned tabOf wl tow opt tabF majN telB telN askN solB lv firstN majV ktV askV leastV ansN lessN holds tmOf mayT mcells nums
open Go.ChangeMaps (open_string shut_string)
set_option linter.unusedVariables false
set_option maxRecDepth 100000 in
set_option maxHeartbeats 8000000 in
theorem walk (a0 : Value) (n0 : Nat) (w : World) (w0 : RdBytes w w.heap.size a0 n0) (hZ : TabZ w) :
    Calls Tryd.prog 3 #[a0] w fun e w' => e = .returned (.bool true) ∧ Below w.heap.size w w' := by
  have Hzw := Lib.hid hZ
  clear hZ
  have hr := w0
  by_cases hbig : n0 ≤ 1048576
  case neg =>
    obtain ⟨ao, cap, rfl, hl, hm, hc⟩ := w0
    have hbig' := code_big hbig
    unfold maxLen at hm
    clear hc hr hbig
    go_enter Tryd.func3, Tryd.ntmps3
    go_wp2
    go_ret
    exact ⟨rfl, Below.refl _ _⟩
  have hbig' : (n0 : Int) ≤ 1048576 := by omega
  clear hbig
  obtain ⟨ao, cap, rfl, hl, hm, hc⟩ := w0
  have Hr := Lib.hid hr
  clear hc hr hl hm
  go_enter Tryd.func3, Tryd.ntmps3
  go_wp2_with fail
  refine (drawKnownTeller _ _ _ Hr.out).mono ?_
  rintro e w1 ⟨p, t, ⟨hp1, hp8, ht0, ht1⟩, rfl, hB1⟩
  obtain ⟨i0, hi, hz0, hz1, hz2⟩ := info_parts Tryd.info3
  have Hi := Lib.hid hi; clear hi
  have Hz0 := Lib.hid hz0; clear hz0
  have Hz1 := Lib.hid hz1; clear hz1
  have Hz2 := Lib.hid hz2; clear hz2
  have him := fun w (hz : TabZ w) => implKnownTeller p t w hz
  have hsm := fun w => specKnownTeller p t w
  have Hwi := Lib.hid (fun w => implWorldsIn p t w)
  have hlow := ktV_low p t
  by_cases hn : 0 ≤ ktV p t
  case neg =>
    have he : ktV p t = -1 := by omega
    rw [he] at him hsm
    have Him := Lib.hid him
    have Hsm := Lib.hid hsm
    clear him hsm hn he hlow ht0 ht1
    go_wp2_with fail
    refine (Him.out _ (by first | exact Hzw.out | exact Hzw.out.below (by assumption) | exact Hzw.out.below HB7.out | exact Hzw.out.below (below_drewN (Below.refl _ _) _))).mono ?_
    rintro e w2 ⟨rfl, hb2⟩
    have hB2 : Below w.heap.size w w2 := hB1.trans (hb2.mono hB1.size)
    clear hb2
    go_wp2_with fail
    refine (Hsm.out _).mono ?_
    rintro e w' ⟨rfl, rfl⟩
    go_wp2_with fail
    refine (Hwi.out _).mono ?_
    rintro e w3 ⟨v3, rfl, hown, hb3⟩
    have hB3 : Below w.heap.size w w3 := hB2.trans (hb3.mono hB2.size)
    obtain ⟨a3, c3, hv3⟩ := own_len13 hown
    subst hv3
    clear hown hb3
    go_wp2_with fail
    refine (alive _).mono ?_
    rintro e w' ⟨rfl, rfl⟩
    go_wp2
    go_ret
    exact ⟨rfl, hB3⟩

  obtain ⟨P, T, n, rfl, rfl, hkt, h1, h4, hT, hT6, hnP, hT0, htel, htok⟩ := kt_parts hn
  rw [hkt] at him hsm
  have hwl : wlp (P : Int) (T : Int) = wl T (2 ^ P) := by rw [wlp_yes htok, Int.toNat_natCast, Int.toNat_natCast]
  rw [hwl] at Hwi
  have Hbit : Hid (∀ j, j < (wl T (2 ^ P)).length → ((wl T (2 ^ P)).getD j 0).testBit n = true) := fun j hj => kt_bits htel hj
  have Hsml : Hid (∀ j, j < (wl T (2 ^ P)).length → (wl T (2 ^ P)).getD j 0 < 16) := fun j hj => Nat.lt_of_lt_of_le (wl_at hj).1 (Nat.pow_le_pow_right (by decide) h4 : 2 ^ P ≤ 2 ^ 4)
  have hl16 : (wl T (2 ^ P)).length ≤ 16 := Nat.le_trans (wl_le _ _) (Nat.pow_le_pow_right (by decide) h4 : 2 ^ P ≤ 2 ^ 4)
  have hl1 : 1 ≤ (wl T (2 ^ P)).length := Nat.pos_of_ne_zero fun e => hT0 (wl_none hT e)
  have Htow := Lib.hid (less_tow (T := T) h1 h4)
  have Hless := Lib.hid (fun h2 => kt_less h1 h4 h2 hnP htel)
  have hn64 : min n 64 = n := by omega
  generalize wl T (2 ^ P) = l at *
  generalize lessN T (2 ^ P) = T' at *
  generalize hL : l.length = L at *
  have HL := Lib.hid hL
  have Him := Lib.hid him
  have Hsm := Lib.hid hsm
  clear him hsm hn hkt hwl htel htok hT0 hT hL hlow ht0 ht1
  go_wp2_with fail
  refine (Him.out _ (by first | exact Hzw.out | exact Hzw.out.below (by assumption) | exact Hzw.out.below HB7.out | exact Hzw.out.below (below_drewN (Below.refl _ _) _))).mono ?_
  rintro e w2 ⟨rfl, hb2⟩
  have hB2 : Below w.heap.size w w2 := hB1.trans (hb2.mono hB1.size)
  clear hb2
  go_wp2_with fail
  refine (Hsm.out _).mono ?_
  rintro e w' ⟨rfl, rfl⟩
  go_wp2_with fail
  refine (Hwi.out _).mono ?_
  rintro e w3 ⟨v3, rfl, hown, hb3⟩
  have hB3 : Below w.heap.size w w3 := hB2.trans (hb3.mono hB2.size)
  obtain ⟨g, c, hv3⟩ := ownsRow_form hown (by omega)
  subst hv3
  have hcap := own_cap hown
  unfold maxLen at hcap
  have Hcell : Hid (∀ j, j < L → w3.cell? ⟨g, j, none⟩ = some (.int .i64 (l.getD j 0 : Nat))) := fun j hj => by
    have h1 := hown.cellAt j (by omega)
    rw [h1]
    unfold vals
    rw [List.getElem?_map, List.getElem?_eq_getElem (by rw [HL.out]; exact hj)]
    simp [List.getD, HL.out, hj]
  have Hown := Lib.hid hown
  clear hown hb3
  go_wp2
  go_loop [7] (fun i => ∃ j : Nat, j ≤ L ∧ i = .int .i64 j) (fun i => L - (intOf i).toNat)
  case atStart => exact ⟨0, Nat.zero_le _, rfl⟩
  case round =>
    obtain ⟨j, hj, rfl⟩ := hrel
    by_cases hlt : j < L
    · have hc1 := Hcell.out j hlt
      have hbj := Hbit.out j hlt
      have hsj := Hsml.out j hlt
      generalize l.getD j 0 = X at *
      have hb1 := bit_tmod X n
      rw [bitZ_yes hbj] at hb1
      clear hbj
      go_wp2
      go_round
      case rel => exact ⟨j + 1, by omega, by go_num⟩
      case measure => simp [intOf]; omega
    · obtain rfl : j = L := Nat.le_antisymm hj (Nat.le_of_not_lt hlt)
      by_cases h2 : 2 ≤ j
      case neg =>
        obtain rfl : j = 1 := by omega
        go_wp2
        go_ret
        exact ⟨rfl, hB3⟩

      have hle := Hless.out h2
      have hkl := fun w (hz : TabZ w) => implKnownTeller (P : Int) (T' : Int) w hz
      generalize ktV (P : Int) (T' : Int) = m at *
      have Hkl := Lib.hid hkl
      obtain ⟨hm0, hmn⟩ := hle
      clear hkl Hless
      obtain ⟨L, rfl⟩ : ∃ L, L = j := ⟨_, rfl⟩
      have Hnews : Hid (∀ (j : Nat) (x : Value), (vals l.dropLast)[j]? = some x → (w3.alloc (.cells #[] 3)).cell? ((⟨g, 0, none⟩ : Addr).add j) = some x) := fun j x hx =>
        (World.cell?_alloc_lt w3 _ ((⟨g, 0, none⟩ : Addr).add j) (by rw [Addr.add_lit]; exact ((Hown.out.lt g rfl).2 : g < w3.heap.size))).trans (own_take13 Hown.out HL.out j x hx)
      go_wp2_with (first
        | (at_builtin
           refine wpList_append_any ?_ (.tmp 57) (.tmp 62) 26 rfl w3.heap.size 3 i0 (.int .i64 0) 8 Tryd.underlying26 Hi.out Hz0.out Hz1.out Hz2.out rfl (.slice (some ⟨w3.heap.size, 0, none⟩) 0 0) 0 [] rfl (World.ownsRow_made w3 #[] 0 (Nat.le_refl _) (Nat.zero_le _) rfl) (some ⟨g, 0, none⟩) (L - 1) _ (vals l.dropLast) rfl (by rw [vals_len13, List.length_dropLast, HL.out]) (fun he => by cases he) (fun ad hh j u hu => by cases hh; exact Hnews.out j u hu) (vals_one13 _) (by unfold maxLen; omega) (by omega) ?_ ?_
           go_must (rfl)
           go_must (simp)
           go_must (intro v7 w7 hown7 hgr7
                    simp only [Nat.zero_add, List.nil_append] at hown7
                    have hG7 : w3.grownBy w7 none := grown_own (only_alloc (World.grownBy.refl _ _) _) hgr7 (fun k hk => by simp [Value.ownBlock] at hk; omega)
                    have HB7 := Lib.hid (hB3.trans ((below_none hG7).mono hB3.size))
                    have Hrd7 : Hid (RdInts w7 w7.heap.size v7 (nums l.dropLast)) := RdInts.of_own (zs := nums l.dropLast) (by rw [nums_length, ← vals_nums, List.length_dropLast, HL.out]; exact hown7)
                    clear hG7 hgr7 hown7))
        | fail)
      refine (implTableOfWorlds _ (nums l.dropLast) _ _ _ Hrd7.out).mono ?_
      rintro e w' ⟨rfl, rfl⟩
      rw [Htow.out]
      go_wp2_with fail
      refine (Hkl.out _ (by first | exact Hzw.out | exact Hzw.out.below (by assumption) | exact Hzw.out.below HB7.out | exact Hzw.out.below (below_drewN (Below.refl _ _) _))).mono ?_
      rintro e w8 ⟨rfl, hb8⟩
      have hB8 : Below w.heap.size w w8 := HB7.out.trans (hb8.mono HB7.out.size)
      clear hb8
      go_wp2
      go_ret
      exact ⟨rfl, hB8⟩

set_option maxRecDepth 100000 in
theorem lifted (os : Os) (started : os.Started) (H : Type) (enc : TypeId × Value → H) :
    ReturnsInHanded {} Tryd.checked os 3 .any (fun w args => (Rows.fnKnownTellerSpec.pre enc Tryd.prog Tryd.f3 Rows.fnKnownTellerRow.domain false w args ∧ laidMet Tryd.prog tabsZ w) ∧ sizedMet enc Tryd.prog Tryd.f3 (OpenSpec.ofChange Rows.fnKnownTellerSpec) false w args) (Rows.fnKnownTellerSpec.post enc Tryd.prog Tryd.f3 false true false false) := by
  refine returnsInHanded_of_change_and (C := Tryd.checked) (X := fun w _ => laidMet Tryd.prog tabsZ w) (fun _ _ _ hh h => h.of_heap hh) Tryd.own started (by kernel_rfl) Tryd.func3
    (ChangeSpec.witness_at (enc := enc) (C := Tryd.checked) (os := os) (X := fun w _ => laidMet Tryd.prog tabsZ w) false (laidWorldZ os) #[.slice none 0 0] 8 rfl (by kernel_rfl) (by kernel_rfl) (by kernel_rfl) (by kernel_rfl) (by kernel_rfl) (laidWorldZ_met os _)) ?_
  intro W base args ds gs before hval0 hW hcnd _ hL _
  have hval : ∀ (j : Nat) t v, Tryd.f3.params[j]? = some t → args[j]? = some v → Value.okWide Tryd.prog W .any base t v := hval0
  have hW' := hW
  obtain ⟨p, q, hA0, hV, rfl, hfz, hnd⟩ := hW
  have hA : DataW.TrodAll enc Tryd.prog W 0 (fun _ => true) true Tryd.f3.params.toList args.toList ds p := hA0
  rw [Tryd.params3] at hA hval
  obtain ⟨v0, vs0, d0, ds0, p0, q0, hargs, rfl, rfl, h0, r0⟩ := trodAll_cons hA
  obtain ⟨rfl, rfl, rfl⟩ := trodAll_nil r0
  obtain rfl : args = #[v0] := by cases args; simp_all
  obtain ⟨rfl, rfl⟩ := trodVars_none hV
  obtain ⟨a0, len0, cap0, rfl⟩ := okWide_slice Tryd.underlying22 (hval 0 22 v0 rfl rfl)
  have k0 := h0
  have lt0 : ∀ x ∈ p0, x.block < W.heap.size := by obtain ⟨m, hm⟩ := k0; exact DataW.trod_lt m _ _ _ hm
  obtain ⟨z0, w0⟩ : ∃ zs, IsRow .u8 W a0 len0 cap0 zs := by
    obtain ⟨fuel, hf⟩ := h0
    rcases open_ints Tryd.underlying22 Tryd.underlying5 (by kernel_rfl) hf with ⟨hcs, _⟩ | ⟨x, l, c, zs, hcs, _, hl, hm, hz, _, hcell, hwz⟩
    · simp [Value.cells] at hcs
      obtain ⟨rfl, rfl, rfl⟩ := hcs
      exact ⟨[], .inl ⟨rfl, rfl, rfl, rfl⟩⟩
    · simp [Value.cells] at hcs
      obtain ⟨rfl, rfl, rfl⟩ := hcs
      exact ⟨zs, .inr ⟨_, rfl, hl, hm, by simpa using hz, hcell, hwz⟩⟩
  clear hA0 hval0
  refine (walk _ _ W (RdBytes.of_row w0) (tabZ_of_laid hL)).mono fun e W' ⟨he, bel⟩ => ?_
  subst he
  exact ⟨_, rfl, _, _, _, [], _, [], hW', trodAll_mk1 (shut_bool Tryd.underlying4 _), (trodAll_cons_mk (Below.trod Tryd.laidOut (by kernel_rfl) (of_decide_eq_true (by kernel_rfl)) k0 bel lt0) trodAll_mk0), rfl, bel.frame _, fun h => by cases h⟩

theorem closed : joinedFacts Tryd.pinned.checked.prog 3 Tryd.f3 Rows.fnKnownTellerSpec Rows.fnKnownTellerRow = true := by
  unfold joinedFacts
  exact (and_tt (and_tt (and_tt (and_tt (and_tt (and_tt (and_tt (and_tt (and_tt (and_tt (and_tt (and_tt (and_tt (and_tt (and_tt (and_tt (and_tt (and_tt (and_tt (and_tt (and_tt (and_tt (and_tt (and_tt (and_tt (and_tt (and_tt (and_tt (and_tt (and_tt (and_tt (by kernel_rfl) (by kernel_rfl)) (by kernel_rfl)) (by kernel_rfl)) (by kernel_rfl)) (by kernel_rfl)) (by kernel_rfl)) (by kernel_rfl)) (by kernel_rfl)) (by kernel_rfl)) (by kernel_rfl)) (by kernel_rfl)) (by kernel_rfl)) (by kernel_rfl)) (by kernel_rfl)) (by kernel_rfl)) (by kernel_rfl)) (by kernel_rfl)) (by kernel_rfl)) (by kernel_rfl)) (by kernel_rfl)) (by kernel_rfl)) (by kernel_rfl)) (by kernel_rfl)) (by kernel_rfl)) Tryd.mayEnter0) (lifted_tt Tryd.lifts0 rfl)) (make_tt Tryd.make0 rfl)) (by kernel_rfl)) (by kernel_rfl)) (by kernel_rfl)) (by kernel_rfl))
theorem over : Rows.fnKnownTellerRow.holds Tryd.pinned (OpenSpec.ofChange Rows.fnKnownTellerSpec) :=
  OpenClaim.holds_of_wide 3 Tryd.f3 rfl rfl rfl rfl rfl rfl rfl ⟨rfl, rfl, rfl, rfl, rfl⟩ rfl rfl rfl rfl rfl (by kernel_rfl) Tryd.func3 closed
    (of_decide_eq_true (by kernel_rfl)) (by unfold Func.isWrapper; first | (rw [if_pos (by decide +kernel)]; kernel_rfl) | (rw [if_neg (by decide +kernel)]; exact ⟨rfl, rfl⟩))
    (fun os started H enc _ => lifted os started H enc)

theorem proved : Rows.FnKnownTellerCardSaid :=
  Claim7.holds_tied_plain_at .later [] [.data, .data] true Rows.fnKnownTellerCard.stood.harness false
    over (fun _ h => by cases h) (by kernel_rfl) (fun _ h => by cases h) fnKnownTeller_row_tie rfl ⟨rfl, rfl⟩ (by kernel_rfl) rfl
    (fun f fn hf hfn => by
      obtain rfl : f = 3 := Option.some.inj ((show Tryd.prog.funcNamed "loop.example/tellersandliars/laws.FnKnownTeller" = some 3 by kernel_rfl).symm.trans hf) |>.symm
      obtain rfl : fn = Tryd.f3 := (Option.some.inj (Tryd.func3.symm.trans hfn)).symm
      exact ⟨by kernel_rfl, fun j t ht => by
        rw [Tryd.params3] at ht
        have h3 : t = 22 := by
          rcases j with _ | j
          · simpa using ht.symm
          · simp at ht
        subst h3
        exact (show Tryd.prog.wantsStandIn 22 = false by kernel_rfl)⟩)
    (by kernel_rfl)
end Go.Proofs.YtbnickgjnglblaaDoor.fnKnownTeller

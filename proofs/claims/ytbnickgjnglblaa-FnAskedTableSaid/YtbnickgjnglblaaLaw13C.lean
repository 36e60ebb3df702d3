/- A law of stage 13: yes and no part the worlds. It answers true, whatever the code. No condition. -/
import Derived.Test.YtbnickgjnglblaaMerged5
import Derived.Test.YtbnickgjnglblaaMerged13
import Derived.Test.YtbnickgjnglblaaMerged10
import Derived.Test.YtbnickgjnglblaaMerged2
import Derived.Deep.RegionHeld3
import Derived.Deep.Cut
import Derived.Test.YtbnickgjnglblaaMerged8
namespace Go.Proofs.Ytbnickgjnglblaa
open Go.RowKit Go.Joins
theorem own_mark13 (w : World) (k : Int) : (w.alloc (.cells #[.int .i64 0, .int .i64 k] TM)).ownsRow w.heap.size TM 2 (.slice (some ⟨w.heap.size, 0, none⟩) 1 1) 1 (mcells [(0, k)]) := own_new w w.heap.size 0 k (Nat.le_refl _)
theorem own_len13 {w : World} {base n size : Nat} {e : TypeId} {v : Value} {xs : List Value} (h : w.ownsRow base e size v n xs) : ∃ ao cp, v = .slice ao n cp := by
  rcases h.2 with ⟨rfl, rfl⟩ | ⟨g, cap, cur, rfl, _⟩
  · exact ⟨_, _, rfl⟩
  · exact ⟨_, _, rfl⟩
theorem I64_small13 {x : Int} (h0 : 0 ≤ x) (h1 : x ≤ 100) : I64 x := by unfold I64; omega
end Go.Proofs.Ytbnickgjnglblaa
namespace Go.Proofs.Ytbnickgjnglblaa.fnAskedTable
open Go.ChangeShapes Go.WideShapes Go.ChangeAt Go.RowKit Go.Joins
attribute [local irreducible] heads turned tabOf wl tow opt tabF majN telB telN askN solB lv firstN majV ktV askV leastV ansN lessN holds tmOf mayT mcells nums
open Go.ChangeMaps (open_string shut_string)
set_option linter.unusedVariables false
set_option maxRecDepth 100000 in
set_option maxHeartbeats 8000000 in
theorem walk (a0 : Value) (n0 : Nat) (w : World) (w0 : RdBytes w w.heap.size a0 n0) :
    Calls Try.prog 4 #[a0] w fun e w' => e = .returned (.bool true) ∧ Below w.heap.size w w' := by
  have hr := w0
  by_cases hbig : n0 ≤ 1048576
  case neg =>
    obtain ⟨ao, cap, rfl, hl, hm, hc⟩ := w0
    have hbig' := code_big hbig
    unfold maxLen at hm
    clear hc hr hbig
    go_enter Try.func4, Try.ntmps4
    go_wp2
    go_ret
    exact ⟨rfl, Below.refl _ _⟩
  have hbig' : (n0 : Int) ≤ 1048576 := by omega
  clear hbig
  obtain ⟨ao, cap, rfl, hl, hm, hc⟩ := w0
  have Hr := Lib.hid hr
  clear hc hr hl hm
  go_enter Try.func4, Try.ntmps4
  go_wp2_with fail
  refine (drawAskedTable _ _ _ Hr.out).mono ?_
  rintro e w1 ⟨p, t, i, j, s, ⟨hp1, hp8, ht0, ht1⟩, rfl, hB1⟩
  have him := fun w => implAskedTable p t i j s w
  have hsm := fun w => specAskedTable p t i j s w
  have hlow := askV_low p t i j s
  by_cases hn : 0 ≤ askV p t i j s
  case neg =>
    have he : askV p t i j s = -1 := by omega
    rw [he] at him hsm
    have Him := Lib.hid him
    have Hsm := Lib.hid hsm
    clear him hsm hn he hlow ht0 ht1
    go_wp2_with fail
    refine (Him.out _).mono ?_
    rintro e w2 ⟨rfl, hb2⟩
    have hB2 : Below w.heap.size w w2 := hB1.trans (hb2.mono hB1.size)
    clear hb2
    go_wp2_with fail
    refine (Hsm.out _).mono ?_
    rintro e w' ⟨rfl, nd, rfl⟩
    have hB3 : Below w.heap.size w (w2.drewN nd) := below_drewN hB2 nd
    go_wp2_with fail
    refine (alive _).mono ?_
    rintro e w' ⟨rfl, rfl⟩
    go_wp2
    go_ret
    exact ⟨rfl, hB3⟩

  obtain ⟨P, T, I, J, rfl, rfl, rfl, rfl, h1, h4, hT, hT6, hI, hJ, hv, hv2, htok⟩ := ask_parts hn
  have hio := fun w => implAskedTable (P : Int) (T : Int) (I : Int) (J : Int) (!s) w
  have hiw := fun w => implAskedTable (P : Int) (T : Int) (J : Int) (I : Int) s w
  have Hwi := Lib.hid (fun w => implWorldsIn (P : Int) (askN P T I J s : Int) w)
  have hAl := ask_lt P T I J s
  rw [hv s] at him hsm
  rw [hv (!s)] at hio
  rw [hv2 s, ask_swap] at hiw
  have htokA := tOk_nat h1 h4 hAl
  rw [show wlp (P : Int) (askN P T I J s : Int) = wl (askN P T I J s) (2 ^ P) by rw [wlp_yes htokA, Int.toNat_natCast, Int.toNat_natCast]] at Hwi
  have Hans : Hid (∀ q, q < (wl (askN P T I J s) (2 ^ P)).length → ansN (P : Int) (I : Int) [(0, (J : Int))] (((wl (askN P T I J s) (2 ^ P)).getD q 0 : Nat) : Int) = if s then 1 else 0) := fun q hq => ans_alike13 h1 h4 hI hJ hq
  have Hai := Lib.hid (fun x B u W h hB => implAnswerIn (P : Int) (I : Int) x [(0, (J : Int))] B u W h hB)
  have hl16 : (wl (askN P T I J s) (2 ^ P)).length ≤ 16 := Nat.le_trans (wl_le _ _) (Nat.pow_le_pow_right (by decide) h4 : 2 ^ P ≤ 2 ^ 4)
  have hAs := ask_small P T I J s h4
  have hOs := ask_small P T I J (!s) h4
  have hand := bits_and_nat (askN P T I J s) (askN P T I J (!s)) (by omega) (by omega)
  have hor := bits_or_nat (askN P T I J s) (askN P T I J (!s)) (by omega) (by omega)
  rw [ask_and] at hand
  rw [ask_or s hT] at hor
  generalize wl (askN P T I J s) (2 ^ P) = l at *
  generalize askN P T I J s = A at *
  generalize askN P T I J (!s) = O at *
  generalize hL : l.length = L at *
  have HL := Lib.hid hL
  have Him := Lib.hid him
  have Hsm := Lib.hid hsm
  have Hio := Lib.hid hio
  have Hiw := Lib.hid hiw
  clear him hsm hio hiw hn htok htokA hT hL hlow ht0 ht1 hv hv2 hAl
  go_wp2_with fail
  refine (Him.out _).mono ?_
  rintro e w2 ⟨rfl, hb2⟩
  have hB2 : Below w.heap.size w w2 := hB1.trans (hb2.mono hB1.size)
  clear hb2
  go_wp2_with fail
  refine (Hsm.out _).mono ?_
  rintro e w' ⟨rfl, nd, rfl⟩
  have hB3 : Below w.heap.size w (w2.drewN nd) := below_drewN hB2 nd
  go_wp2_with fail
  refine (Hwi.out _).mono ?_
  rintro e w4 ⟨v4, rfl, hown, hb4⟩
  have hB4 : Below w.heap.size w w4 := hB3.trans (hb4.mono hB3.size)
  obtain ⟨a4, c4, hv4⟩ := own_len13 hown
  subst hv4
  have Hrd : Hid (RdInts w4 w4.heap.size (.slice a4 L c4) (nums l)) := RdInts.of_own (zs := nums l) (by rw [nums_length, ← vals_nums, HL.out]; exact hown)
  have Hcell : Hid (L ≤ c4 ∧ c4 ≤ maxLen ∧ ∀ q, q < L → ∃ b off, a4 = some ⟨b, off, none⟩ ∧ b < w4.heap.size ∧ w4.cell? ⟨b, off + q, none⟩ = some (.int .i64 (l.getD q 0 : Nat))) := by
    obtain ⟨ao', cp', e1, e2, e3, e4⟩ := Hrd.out
    rw [nums_length, HL.out] at e1 e2 e4
    cases e1
    refine ⟨e2, e3, fun q hq => ?_⟩
    obtain ⟨b, off, f1, f2, f3⟩ := e4 q hq
    refine ⟨b, off, f1, f2, ?_⟩
    rw [f3]
    simp [nums, List.getD, HL.out, hq]
  have hlc := Hcell.out.1
  have hcm := Hcell.out.2.1
  unfold maxLen at hcm
  have HB4 := Lib.hid hB4
  clear hown hb4 hB3 hB2 hB1 hB4
  go_wp2
  go_loopw [10] (fun i wr => ∃ q : Nat, q ≤ L ∧ i = .int .i64 q ∧ Below w4.heap.size w4 wr) (fun i _ => L - (intOf i).toNat)
  case atStart => exact ⟨0, Nat.zero_le _, rfl, Below.refl _ _⟩
  case round =>
    obtain ⟨q, hq, rfl, hbr⟩ := hrel
    have hsr := hbr.size
    by_cases hlt : q < L
    · obtain ⟨b, off, rfl, hb, hc0⟩ := Hcell.out.2.2 q hlt
      have hc1 := (hbr.cell (p := ⟨b, off + q, none⟩) hb).trans hc0
      have hc2 := (World.cell?_alloc_lt wr (.cells #[.int .i64 0, .int .i64 J] TM) ⟨b, off + q, none⟩ (show b < wr.heap.size by omega)).trans hc1
      have han := Hans.out q hlt
      generalize l.getD q 0 = X at *
      have Hans2 := Lib.hid (fun B u W h hB => Hai.out (X : Int) B u W h hB)
      rw [han] at Hans2
      have Hmk := Lib.hid (RdMarks.of_own (own_mark13 wr (J : Int)) (I64s_one (I64_small13 (by omega) (by omega)) (I64_small13 (by omega) (by omega))))
      have Hbr := Lib.hid hbr
      clear han hc0 hbr
      cases s
      all_goals
        go_wp2_with fail
        refine (Hans2.out _ _ _ Hmk.out (Nat.le_refl _)).mono ?_
        rintro e w5 ⟨rfl, hb5⟩
        have Hb5 : Hid (Below w4.heap.size w4 w5) := (Hbr.out.alloc hsr _).trans (hb5.mono (by simp; omega))
        clear hb5 hc1 hc2
        go_wp2
        go_roundw
        case rel => exact ⟨q + 1, by omega, by go_num, Hb5.out⟩
        case measure => simp [intOf]; omega
    · obtain rfl : q = L := Nat.le_antisymm hq (Nat.le_of_not_lt hlt)
      have hBr : Below w.heap.size w wr := HB4.out.trans (hbr.mono HB4.out.size)
      clear hbr
      go_wp2_with fail
      refine (Hio.out _).mono ?_
      rintro e w6 ⟨rfl, hb6⟩
      have hB6 : Below w.heap.size w w6 := hBr.trans (hb6.mono hBr.size)
      clear hb6
      go_wp2_with fail
      refine (Hiw.out _).mono ?_
      rintro e w7 ⟨rfl, hb7⟩
      have hB7 : Below w.heap.size w w7 := hB6.trans (hb7.mono hB6.size)
      clear hb7
      go_wp2
      go_ret
      exact ⟨rfl, hB7⟩

set_option maxRecDepth 100000 in
theorem lifted (os : Os) (started : os.Started) (H : Type) (enc : TypeId × Value → H) :
    ReturnsInHanded {} Try.checked os 4 .any (Rows.fnAskedTableSpec.pre6 enc Try.prog Try.f4 Rows.fnAskedTableRow.domain false) (Rows.fnAskedTableSpec.post enc Try.prog Try.f4 false true false false) := by
  refine returnsInHanded_of_change (C := Try.checked) Try.own started (by kernel_rfl) Try.func4
    (ChangeSpec.witness6 (enc := enc) (C := Try.checked) false ⟨#[], #[.slice none 0 0], []⟩ 8 (by kernel_rfl) (by kernel_rfl) (by kernel_rfl) (by kernel_rfl)) ?_
  intro W base args ds gs before hval0 hW hcnd _
  have hval : ∀ (j : Nat) t v, Try.f4.params[j]? = some t → args[j]? = some v → Value.okWide Try.prog W .any base t v := hval0
  have hW' := hW
  obtain ⟨p, q, hA0, hV, rfl, hfz, hnd⟩ := hW
  have hA : DataW.TrodAll enc Try.prog W 0 (fun _ => true) true Try.f4.params.toList args.toList ds p := hA0
  rw [Try.params4] at hA hval
  obtain ⟨v0, vs0, d0, ds0, p0, q0, hargs, rfl, rfl, h0, r0⟩ := trodAll_cons hA
  obtain ⟨rfl, rfl, rfl⟩ := trodAll_nil r0
  obtain rfl : args = #[v0] := by cases args; simp_all
  obtain ⟨rfl, rfl⟩ := trodVars_none hV
  obtain ⟨a0, len0, cap0, rfl⟩ := okWide_slice Try.underlying22 (hval 0 22 v0 rfl rfl)
  have k0 := h0
  have lt0 : ∀ x ∈ p0, x.block < W.heap.size := by obtain ⟨m, hm⟩ := k0; exact DataW.trod_lt m _ _ _ hm
  obtain ⟨z0, w0⟩ : ∃ zs, IsRow .u8 W a0 len0 cap0 zs := by
    obtain ⟨fuel, hf⟩ := h0
    rcases open_ints Try.underlying22 Try.underlying5 (by kernel_rfl) hf with ⟨hcs, _⟩ | ⟨x, l, c, zs, hcs, _, hl, hm, hz, _, hcell, hwz⟩
    · simp [Value.cells] at hcs
      obtain ⟨rfl, rfl, rfl⟩ := hcs
      exact ⟨[], .inl ⟨rfl, rfl, rfl, rfl⟩⟩
    · simp [Value.cells] at hcs
      obtain ⟨rfl, rfl, rfl⟩ := hcs
      exact ⟨zs, .inr ⟨_, rfl, hl, hm, by simpa using hz, hcell, hwz⟩⟩
  clear hA0 hval0
  refine (walk _ _ W (RdBytes.of_row w0)).mono fun e W' ⟨he, bel⟩ => ?_
  subst he
  exact ⟨_, rfl, _, _, _, [], _, [], hW', trodAll_mk1 (shut_bool Try.underlying4 _), (trodAll_cons_mk (Below.trod Try.laidOut (by kernel_rfl) (of_decide_eq_true (by kernel_rfl)) k0 bel lt0) trodAll_mk0), rfl, bel.frame _, fun h => by cases h⟩

theorem closed : joinedFacts Try.pinned.checked.prog 4 Try.f4 Rows.fnAskedTableSpec Rows.fnAskedTableRow = true := by
  unfold joinedFacts
  exact (and_tt (and_tt (and_tt (and_tt (and_tt (and_tt (and_tt (and_tt (and_tt (and_tt (and_tt (and_tt (and_tt (and_tt (and_tt (and_tt (and_tt (and_tt (and_tt (and_tt (and_tt (and_tt (and_tt (and_tt (and_tt (and_tt (and_tt (and_tt (and_tt (and_tt (and_tt (by kernel_rfl) (by kernel_rfl)) (by kernel_rfl)) (by kernel_rfl)) (by kernel_rfl)) (by kernel_rfl)) (by kernel_rfl)) (by kernel_rfl)) (by kernel_rfl)) (by kernel_rfl)) (by kernel_rfl)) (by kernel_rfl)) (by kernel_rfl)) (by kernel_rfl)) (by kernel_rfl)) (by kernel_rfl)) (by kernel_rfl)) (by kernel_rfl)) (by kernel_rfl)) (by kernel_rfl)) (by kernel_rfl)) (by kernel_rfl)) (by kernel_rfl)) (by kernel_rfl)) (by kernel_rfl)) Try.mayEnter0) (lifted_tt Try.lifts0 rfl)) (make_tt Try.make0 rfl)) (by kernel_rfl)) (by kernel_rfl)) (by kernel_rfl)) (by kernel_rfl))
theorem over : Rows.fnAskedTableRow.holds Try.pinned (OpenSpec.ofChange Rows.fnAskedTableSpec) :=
  OpenClaim.holds_of_wide 4 Try.f4 rfl rfl rfl rfl rfl rfl rfl ⟨rfl, rfl, rfl, rfl, rfl⟩ rfl rfl rfl rfl rfl (by kernel_rfl) Try.func4 closed
    (of_decide_eq_true (by kernel_rfl)) (by unfold Func.isWrapper; first | (rw [if_pos (by decide +kernel)]; kernel_rfl) | (rw [if_neg (by decide +kernel)]; exact ⟨rfl, rfl⟩))
    (fun os started H enc _ => lifted os started H enc)

theorem proved : Rows.FnAskedTableSaid := over
end Go.Proofs.Ytbnickgjnglblaa.fnAskedTable


/- Contracts of the reference's strange words. -/
import Derived.Test.YtbcmepcjhobemaaAsk
import Derived.Test.YtbcmepcjhobemaaStrM
namespace Go.Proofs.Ytbcmepcjhobemaa
open Go.RowKit Go.Joins
theorem own_new8 (w : World) (a b c d : Int) : (w.alloc (.cells #[.int .i64 a, .int .i64 b, .int .i64 c, .int .i64 d] TM)).ownsRow w.heap.size TM 2 (.slice (some ⟨w.heap.size, 0, none⟩) 2 2) 2 (mcells [(a, b), (c, d)]) :=
  ⟨rfl, .inr ⟨w.heap.size, 2, _, rfl, Nat.le_refl _, heap_alloc_new w _, Nat.le_refl _, by unfold maxLen; omega, rfl, rfl⟩⟩
theorem I64s_str8 {p k : Int} {ms : List (Int × Int)} (hp : I64 (p - 1)) (hk : I64 k) (hi : I64s ms) : I64s (strL p k ms) := by
  have e0 : I64 0 := I64_small (by omega) (by omega)
  have e5 : I64 5 := I64_small (by omega) (by omega)
  rw [strL_eq]
  exact I64s_append (I64s_append (I64s_two e0 hk e0 hp) hi) (I64s_two e5 e0 e5 e0)
/-- two marks ahead of a term and two behind it: two appends -/
theorem str_runs (w : World) (B : Nat) (u : Value) (p k : Int) (ms : List (Int × Int)) (hr : RdMarks w B u ms) (hB : B ≤ w.heap.size) (hlen : ms.length ≤ 2000000) : ∃ (f2 : Option Addr) (g2 : Nat) (w2 : World) (f4 : Option Addr) (g4 : Nat) (w4 : World),
    (Builtin.append_ #[TS, TS] TS #[.slice (some ⟨w.heap.size, 0, none⟩) 2 2, u]).run Try.prog (w.alloc (.cells #[.int .i64 0, .int .i64 k, .int .i64 0, .int .i64 (p - 1)] TM)) = .ok (.slice f2 (2 + ms.length) g2) w2 ∧
    (Builtin.append_ #[TS, TS] TS #[.slice f2 (2 + ms.length) g2, .slice (some ⟨w2.heap.size, 0, none⟩) 2 2]).run Try.prog (w2.alloc (.cells #[.int .i64 5, .int .i64 0, .int .i64 5, .int .i64 0] TM)) = .ok (.slice f4 (ms.length + 4) g4) w4 ∧
    w4.ownsRow w.heap.size TM 2 (.slice f4 (ms.length + 4) g4) (strL p k ms).length (mcells (strL p k ms)) ∧ Below w.heap.size w w4 := by
  obtain ⟨im, hmi, hmz0, hmz1, hmz2⟩ := info_parts Try.infoM
  have hb1 : Below w.heap.size w (w.alloc (.cells #[.int .i64 0, .int .i64 k, .int .i64 0, .int .i64 (p - 1)] TM)) := (Below.refl _ _).alloc (Nat.le_refl _) _
  have ho1 := own_new8 w 0 k 0 (p - 1)
  obtain ⟨v2, w2, hrun2, ho2, hg2, _⟩ := append_rd hmi hmz0 hmz1 hmz2 ho1 (hr.below (w' := w.alloc (.cells #[.int .i64 0, .int .i64 k, .int .i64 0, .int .i64 (p - 1)] TM)) (fun q hq => hb1.block q (by omega))) (by omega) hb1.size
  have hb2 := below_grown7 hb1 hg2 hb1.size (fun q hq => (ho1.lt q hq).1)
  rw [← mcells_append] at ho2
  have hb3 : Below w.heap.size w (w2.alloc (.cells #[.int .i64 5, .int .i64 0, .int .i64 5, .int .i64 0] TM)) := hb2.alloc hb2.size _
  have ho3 := ho2.alloc (.cells #[.int .i64 5, .int .i64 0, .int .i64 5, .int .i64 0] TM)
  have e5 : I64 5 := I64_small (by omega) (by omega)
  have e0 : I64 0 := I64_small (by omega) (by omega)
  have hl3 : RdMarks (w2.alloc (.cells #[.int .i64 5, .int .i64 0, .int .i64 5, .int .i64 0] TM)) (w2.alloc (.cells #[.int .i64 5, .int .i64 0, .int .i64 5, .int .i64 0] TM)).heap.size (.slice (some ⟨w2.heap.size, 0, none⟩) 2 2) [(5, 0), (5, 0)] :=
    RdMarks.of_own (own_new8 w2 5 0 5 0) (I64s_two e5 e0 e5 e0)
  obtain ⟨v4, w4, hrun4, ho4, hg4, _⟩ := append_rd hmi hmz0 hmz1 hmz2 ho3 hl3 (by simp; omega) hb3.size
  have hb4 := below_grown7 hb3 hg4 hb3.size (fun q hq => (ho3.lt q hq).1)
  rw [← mcells_append, ← strL_eq] at ho4
  have hcl : (strL p k ms).length = ms.length + 4 := strL_len p k ms
  rw [show 2 + ms.length + [((5 : Int), (0 : Int)), (5, 0)].length = (strL p k ms).length by rw [hcl]; simp; omega] at ho4
  obtain ⟨f2, g2, rfl⟩ := own_len ho2
  obtain ⟨f4, g4, rfl⟩ := own_len ho4
  rw [hcl] at hrun4 ho4 ⊢
  exact ⟨f2, g2, w2, f4, g4, w4, hrun2, hrun4, ho4, hb4⟩
theorem l8_decide {p k : Int} : l8V p k = (decide (2 ≤ p ∧ p ≤ 4) && decide (0 ≤ k ∧ k ≤ p - 2)) := rfl
/-- the last bit of a world -/
theorem last_bit {X Q : Nat} (h : X < 2 ^ (Q + 1)) : ((X : Int) / 2 ^ Q == 1) = X.testBit Q := by
  have e : ((X : Int) / 2 ^ Q) = ((X / 2 ^ Q : Nat) : Int) := by rw [Int.natCast_ediv]; rfl
  have hlt : X / 2 ^ Q < 2 := by
    rw [Nat.div_lt_iff_lt_mul (Nat.two_pow_pos _)]
    rw [Nat.pow_succ] at h
    omega
  rw [e, Nat.testBit_eq_decide_div_mod_eq]
  generalize X / 2 ^ Q = d at *
  rw [Bool.eq_iff_iff, beq_iff_eq, decide_eq_true_eq]
  omega
theorem strOk_def (p k : Int) (ms : List (Int × Int)) : strOk p k ms = (l8V p k && (termOk p ms && termOk p (strL p k ms))) := rfl
theorem strV_no (p k : Int) (ms : List (Int × Int)) (h : strOk p k ms = false) : strV p k ms = [] := by unfold strV; rw [h]; rfl
theorem strV_yes (p k : Int) (ms : List (Int × Int)) (h : strOk p k ms = true) : strV p k ms = strL p k ms := by unfold strV; rw [h]; rfl
set_option maxHeartbeats 1000000 in
theorem specL8Ok (p k : Int) (w : World) :
    Calls Try.prog 38 #[.int .i64 p, .int .i64 k] w fun e w' => e = .returned (.bool (l8V p k)) ∧ w = w' := by
  by_cases h : 2 ≤ p ∧ p ≤ 4
  · have H1 : Hid (true = decide (2 ≤ p ∧ p ≤ 4)) := by unfold Hid; rw [decide_eq_true h]
    have H2 : Hid (l8V p k = decide (0 ≤ k ∧ k ≤ p - 2)) := by unfold Hid; rw [l8_decide, decide_eq_true h]; rfl
    have hwp : IntKind.i64.wrap (p - 2) = p - 2 := IntWalk.i64_in _ (by omega)
    clear h
    generalize l8V p k = o at *
    go_enter Try.func38, Try.ntmps38
    go_wp2_with fail
    refine (specL1In _ _ _ true H1 _).mono ?_
    rintro e w' ⟨rfl, rfl⟩
    go_wp2_with fail
    refine (specL1In _ _ _ o H2 _).mono ?_
    rintro e w' ⟨rfl, rfl⟩
    go_wp2
    go_ret
    exact ⟨rfl, rfl⟩
  · have H1 : Hid (false = decide (2 ≤ p ∧ p ≤ 4)) := by unfold Hid; rw [decide_eq_false h]
    have H2 : Hid (l8V p k = false) := by unfold Hid; rw [l8_decide, decide_eq_false h]; rfl
    clear h
    go_enter Try.func38, Try.ntmps38
    go_wp2_with fail
    refine (specL1In _ _ _ false H1 _).mono ?_
    rintro e w' ⟨rfl, rfl⟩
    go_wp2
    go_ret
    exact ⟨by rw [H2.out]; rfl, rfl⟩
attribute [local irreducible] holds tabN tabV holdsV sameV followsV alwaysV matterV claimOk mayT mayV ctabV ctabN storyV storyOk storyN storyT ctermV ctermL ansN inOk chainL chainOk chainV alikeV liesN mcells l8V wordT wordN strL strOk strV wtabN wtabV
set_option maxRecDepth 100000 in
set_option maxHeartbeats 2000000 in
theorem specWordIn (p k x : Int) (ms : List (Int × Int)) (B : Nat) (u : Value) (w : World) (hr : RdMarks w B u ms) (hB : B ≤ w.heap.size) :
    Calls Try.prog 12 #[.int .i64 p, .int .i64 k, u, .int .i64 x] w fun e w' => e = .returned (.int .i64 (wordN p k ms x)) ∧ Below w.heap.size w w' := by
  have hso := fun w h => specTermOk p ms B u w h
  cases h8 : l8V p k with
  | false =>
    have Hf := Lib.hid (wordN_no (p := p) (k := k) (x := x) (ms := ms) (by rw [h8]; rfl))
    have H8 := Lib.hid h8
    clear hso h8
    go_enter Try.func12, Try.ntmps12
    go_wp2_with fail
    refine (specL8Ok _ _ _).mono ?_
    rintro e w' ⟨rfl, rfl⟩
    rw [H8.out]
    go_wp2
    go_ret
    exact ⟨by rw [Hf.out]; rfl, Below.refl _ _⟩
  | true =>
  cases ht : termOk p ms with
  | false =>
    have Hf := Lib.hid (wordN_no (p := p) (k := k) (x := x) (ms := ms) (by rw [h8, ht]; rfl))
    have H8 := Lib.hid h8
    rw [ht] at hso
    have Hso := Lib.hid hso; clear hso h8 ht
    go_enter Try.func12, Try.ntmps12
    go_wp2_with fail
    refine (specL8Ok _ _ _).mono ?_
    rintro e w' ⟨rfl, rfl⟩
    rw [H8.out]
    go_wp2_with fail
    refine (Hso.out _ hr).mono ?_
    rintro e w' ⟨rfl, rfl⟩
    go_wp2
    go_ret
    exact ⟨by rw [Hf.out]; rfl, Below.refl _ _⟩
  | true =>
  cases hx : wOk p x with
  | false =>
    have Hf := Lib.hid (wordN_no (p := p) (k := k) (x := x) (ms := ms) (by rw [h8, ht, hx]; rfl))
    have H8 := Lib.hid h8
    have Hx := Lib.hid hx
    rw [ht] at hso
    have Hso := Lib.hid hso; clear hso h8 ht hx
    go_enter Try.func12, Try.ntmps12
    go_wp2_with fail
    refine (specL8Ok _ _ _).mono ?_
    rintro e w' ⟨rfl, rfl⟩
    rw [H8.out]
    go_wp2_with fail
    refine (Hso.out _ hr).mono ?_
    rintro e w' ⟨rfl, rfl⟩
    go_wp2_with fail
    refine (specWorldOk _ _ _).mono ?_
    rintro e w' ⟨rfl, rfl⟩
    rw [Hx.out]
    go_wp2
    go_ret
    exact ⟨by rw [Hf.out]; rfl, Below.refl _ _⟩
  | true =>
    obtain ⟨_, _, hx0, hx16⟩ := wOk_lt hx
    obtain ⟨_, _, _, hxN⟩ := wOk_iff.1 hx
    obtain ⟨X, rfl⟩ := Int.eq_ofNat_of_zero_le hx0
    obtain ⟨h2, h4, h0, hk2⟩ := l8V_iff.1 h8
    obtain ⟨Q, hQ⟩ := Int.eq_ofNat_of_zero_le (show 0 ≤ p - 1 by omega)
    have Hf := Lib.hid (wordN_yes h8 ht hx)
    obtain ⟨hk, _⟩ := l8V_in h8
    obtain ⟨ao, cap, rfl⟩ : ∃ ao cap, u = .slice ao ms.length cap := by obtain ⟨a, c, h, _⟩ := hr; exact ⟨a, c, h⟩
    have Hm := Lib.hid (fun w h => specMayA ht hk X (by omega) B (.slice ao ms.length cap) w h)
    have hlb : ((X : Int) / 2 ^ Q == 1) = X.testBit Q := last_bit (by
      have e : p.toNat = Q + 1 := by omega
      rw [e] at hxN
      exact_mod_cast hxN)
    have hwp : IntKind.i64.wrap (p - 1) = (Q : Int) := by rw [← hQ]; exact IntWalk.i64_in _ (by omega)
    have hmn : min Q 64 = Q := by omega
    have hQ4 : Q < 4 := by omega
    have H8 := Lib.hid h8
    have Hx := Lib.hid hx
    unfold wordT at Hf
    rw [Int.toNat_natCast, show (p - 1).toNat = Q by omega] at Hf
    rw [ht] at hso
    have Hso := Lib.hid hso; clear hso ht hx hk h8 hxN hQ h2 h4 hk2 h0
    generalize mayT p (k, ms) X = o at *
    generalize X.testBit Q = b at *
    go_enter Try.func12, Try.ntmps12
    go_wp2_with fail
    refine (specL8Ok _ _ _).mono ?_
    rintro e w' ⟨rfl, rfl⟩
    rw [H8.out]
    go_wp2_with fail
    refine (Hso.out _ hr).mono ?_
    rintro e w' ⟨rfl, rfl⟩
    go_wp2_with fail
    refine (specWorldOk _ _ _).mono ?_
    rintro e w' ⟨rfl, rfl⟩
    rw [Hx.out]
    go_upto_region 3 with fail
    cases o <;> cases b
    all_goals
      go_region_held3 (fun _ => True)
        (first | go_keep | trivial)
        (first
          | (go_at_call 41
             (with_reducible refine (Hm.out _ ?_ ?_).mono ?_)
             · exact hr
             · exact hB
             rintro e w2 ⟨rfl, hb2'⟩
             go_must (have hb2 : Below w.heap.size w w2 := by first | exact hb2' | exact below_undrewS hb2' | exact below_undrewN hb2'
                      have Hb2 := Lib.hid hb2
                      clear hb2 hb2'))
          | fail)
      go_wp2
      go_ret
      exact ⟨by rw [Hf.out]; rfl, by first | exact Hb2.out | exact below_drew1 Hb2.out | exact below_drewN Hb2.out _⟩
set_option maxRecDepth 100000 in
set_option maxHeartbeats 4000000 in
theorem specStrangeTerm (p k : Int) (ms : List (Int × Int)) (hk : I64 k) (hlen : ms.length ≤ 2000000) (B : Nat) (u : Value) (w : World) (hr : RdMarks w B u ms) (hB : B ≤ w.heap.size) :
    Calls Try.prog 18 #[.int .i64 p, .int .i64 k, u] w (RowOk (strV p k ms) (strOk p k ms) w) := by
  have hi : I64s ms := by obtain ⟨_, _, _, _, _, h, _⟩ := hr; exact h
  have hso := fun w h => specTermOk p ms B u w h
  have hno := strV_no p k ms
  have hyes := strV_yes p k ms
  have hd := strOk_def p k ms
  have hmade : Hid (∀ w' : World, Below w.heap.size w w' → RowOk [] false w (.returned (.tuple #[.slice (some ⟨w'.heap.size, 0, none⟩) 0 0, .bool false])) (w'.alloc (.cells #[] TM))) := fun w' hb =>
    ⟨_, rfl, by rw [mcells_nil7]; exact World.ownsRow_made _ _ 0 hb.size (by unfold maxLen; omega) rfl, hb.alloc hb.size _⟩
  cases h8 : l8V p k with
  | false =>
    have hn : strOk p k ms = false := by rw [hd, h8]; rfl
    rw [hno hn, hn]
    have H8 := Lib.hid h8
    clear hso hno hyes hd h8 hn
    go_enter Try.func18, Try.ntmps18
    go_wp2_with fail
    refine (specL8Ok _ _ _).mono ?_
    rintro e w' ⟨rfl, rfl⟩
    rw [H8.out]
    go_wp2
    go_ret2
    exact hmade.out _ (Below.refl _ _)
  | true =>
  cases ht : termOk p ms with
  | false =>
    have hn : strOk p k ms = false := by rw [hd, h8, ht]; rfl
    rw [hno hn, hn]
    have H8 := Lib.hid h8
    rw [ht] at hso
    have Hso := Lib.hid hso
    clear hso hno hyes hd h8 hn ht
    go_enter Try.func18, Try.ntmps18
    go_wp2_with fail
    refine (specL8Ok _ _ _).mono ?_
    rintro e w' ⟨rfl, rfl⟩
    rw [H8.out]
    go_wp2_with fail
    refine (Hso.out _ hr).mono ?_
    rintro e w' ⟨rfl, rfl⟩
    go_wp2
    go_ret2
    exact hmade.out _ (Below.refl _ _)
  | true =>
    obtain ⟨h2, h4, h0, hk2⟩ := l8V_iff.1 h8
    have hp1 : I64 (p - 1) := I64_small (by omega) (by omega)
    have hwp : IntKind.i64.wrap (p - 1) = p - 1 := IntWalk.i64_in _ (by omega)
    obtain ⟨f2, g2, w2, f4, g4, w4, hrun2, hrun4, ho4, hb4⟩ := str_runs w B u p k ms hr hB hlen
    have hr4 : RdMarks w4 w4.heap.size (.slice f4 (ms.length + 4) g4) (strL p k ms) := RdMarks.of_own ho4 (I64s_str8 hp1 hk hi)
    obtain ⟨ao, cap, hu⟩ : ∃ ao cap, u = .slice ao ms.length cap := by obtain ⟨a, c, h, _⟩ := hr; exact ⟨a, c, h⟩
    subst hu
    have Hrun2 := Lib.hid hrun2
    have Hrun4 := Lib.hid hrun4
    have Hb4 := Lib.hid hb4
    have Hown4 := Lib.hid ho4
    have hs2 := specTermOk p (strL p k ms) w4.heap.size (.slice f4 (ms.length + 4) g4) w4 hr4
    have H8 := Lib.hid h8
    rw [ht] at hso
    have Hso := Lib.hid hso
    have hd2 : strOk p k ms = termOk p (strL p k ms) := by rw [hd, h8, ht]; rfl
    rw [← hd2] at hs2
    have Hs2 := Lib.hid hs2
    clear hso hrun2 hrun4 hb4 ho4 hr4 hs2 hd hd2 h8 ht h2 h4 h0 hk2 hp1 hk
    cases ho : strOk p k ms with
    | false =>
      rw [hno ho]
      rw [ho] at Hs2
      clear hno hyes ho
      go_enter Try.func18, Try.ntmps18
      go_wp2_with fail
      refine (specL8Ok _ _ _).mono ?_
      rintro e w' ⟨rfl, rfl⟩
      rw [H8.out]
      go_wp2_with fail
      refine (Hso.out _ hr).mono ?_
      rintro e w' ⟨rfl, rfl⟩
      go_wp2_with (first
        | (at_builtin; refine Lib.wpList_append_run _ rfl (.tmp 25) (.tmp 26) _ _ rfl _ _ rfl rfl _ _ Hrun2.out ?_)
        | (at_builtin; refine Lib.wpList_append_run _ rfl (.tmp 28) (.tmp 31) _ _ rfl _ _ rfl rfl _ _ Hrun4.out ?_)
        | fail)
      refine Hs2.out.mono ?_
      rintro e w' ⟨rfl, rfl⟩
      go_wp2
      go_ret2
      exact hmade.out _ Hb4.out
    | true =>
      rw [hyes ho]
      rw [ho] at Hs2
      clear hno hyes ho
      go_enter Try.func18, Try.ntmps18
      go_wp2_with fail
      refine (specL8Ok _ _ _).mono ?_
      rintro e w' ⟨rfl, rfl⟩
      rw [H8.out]
      go_wp2_with fail
      refine (Hso.out _ hr).mono ?_
      rintro e w' ⟨rfl, rfl⟩
      go_wp2_with (first
        | (at_builtin; refine Lib.wpList_append_run _ rfl (.tmp 25) (.tmp 26) _ _ rfl _ _ rfl rfl _ _ Hrun2.out ?_)
        | (at_builtin; refine Lib.wpList_append_run _ rfl (.tmp 28) (.tmp 31) _ _ rfl _ _ rfl rfl _ _ Hrun4.out ?_)
        | fail)
      refine Hs2.out.mono ?_
      rintro e w' ⟨rfl, rfl⟩
      go_wp2
      go_ret2
      exact ⟨_, rfl, Hown4.out, Hb4.out⟩
set_option maxRecDepth 100000 in
set_option maxHeartbeats 2000000 in
theorem specWordTable (p k : Int) (ms : List (Int × Int)) (B : Nat) (u : Value) (w : World) (hr : RdMarks w B u ms) (hB : B ≤ w.heap.size) :
    Calls Try.prog 24 #[.int .i64 p, .int .i64 k, u] w fun e w' => e = .returned (.int .i64 (wtabV p k ms)) ∧ Below w.heap.size w w' := by
  have hso := fun w h => specTermOk p ms B u w h
  cases h8 : l8V p k with
  | false =>
    have Hf := Lib.hid (wtabV_no (p := p) (k := k) (ms := ms) (by rw [h8]; rfl))
    have H8 := Lib.hid h8
    clear hso h8
    go_enter Try.func24, Try.ntmps24
    go_wp2_with fail
    refine (specL8Ok _ _ _).mono ?_
    rintro e w' ⟨rfl, rfl⟩
    rw [H8.out]
    go_wp2
    go_ret
    exact ⟨by rw [Hf.out]; rfl, Below.refl _ _⟩
  | true =>
  cases ht : termOk p ms with
  | false =>
    have Hf := Lib.hid (wtabV_no (p := p) (k := k) (ms := ms) (by rw [h8, ht]; rfl))
    have H8 := Lib.hid h8
    rw [ht] at hso
    have Hso := Lib.hid hso; clear hso h8 ht
    go_enter Try.func24, Try.ntmps24
    go_wp2_with fail
    refine (specL8Ok _ _ _).mono ?_
    rintro e w' ⟨rfl, rfl⟩
    rw [H8.out]
    go_wp2_with fail
    refine (Hso.out _ hr).mono ?_
    rintro e w' ⟨rfl, rfl⟩
    go_wp2
    go_ret
    exact ⟨by rw [Hf.out]; rfl, Below.refl _ _⟩
  | true =>
    obtain ⟨h2, h4, h0, hk2⟩ := l8V_iff.1 h8
    obtain ⟨P, rfl⟩ := Int.eq_ofNat_of_zero_le (show 0 ≤ p by omega)
    obtain ⟨N, hN⟩ : ∃ N : Nat, N = 2 ^ P := ⟨_, rfl⟩
    have hN16 : N ≤ 16 := by rw [hN]; exact two16 (by omega)
    have hsh : wrap64 (2 ^ P) = (N : Int) := by
      have h : P = 2 ∨ P = 3 ∨ P = 4 := by omega
      rw [hN]
      rcases h with rfl | rfl | rfl <;> decide +kernel
    have hmnP : min P 64 = P := by omega
    have Hw := Lib.hid (fun (W : Nat) w h hB => specWordIn (P : Int) k W ms B u w h hB)
    have Hv : Hid (∀ W : Nat, W < N → wordN (P : Int) k ms W = if wordT (P : Int) k ms W then 1 else 0) := fun W hW => by
      rw [wordN_yes h8 ht (wOk_iff.2 ⟨by omega, by omega, by omega, by rw [Int.toNat_natCast]; rw [hN] at hW; exact_mod_cast hW⟩), Int.toNat_natCast]
    have Hd : Hid (wtabV (P : Int) k ms = (tabF N (wordT (P : Int) k ms) : Int)) := by
      unfold Hid
      rw [wtabV_yes h8 ht]
      unfold wtabN
      rw [Int.toNat_natCast, ← hN]
    have H8 := Lib.hid h8
    rw [ht] at hso
    have Hso := Lib.hid hso
    clear hso h8 ht h2 h4 h0 hk2 hN
    generalize wtabV (P : Int) k ms = TT at *
    generalize wordT (P : Int) k ms = f at *
    have Hr := Lib.hid hr
    obtain ⟨wo, rfl⟩ : ∃ wo : World, wo = w := ⟨_, rfl⟩
    go_enter Try.func24, Try.ntmps24
    go_wp2_with fail
    refine (specL8Ok _ _ _).mono ?_
    rintro e w' ⟨rfl, rfl⟩
    rw [H8.out]
    go_wp2_with fail
    refine (Hso.out _ hr).mono ?_
    rintro e w' ⟨rfl, rfl⟩
    go_wp2_with fail
    clear hr
    go_loopw [7, 8] (fun t' i wr => ∃ j : Nat, j ≤ N ∧ i = .int .i64 j ∧ t' = .int .i64 (tabF j f) ∧ Below wo.heap.size wo wr) (fun _ i _ => N - (intOf i).toNat)
    case atStart => exact ⟨0, Nat.zero_le _, rfl, rfl, Below.refl _ _⟩
    case round =>
      obtain ⟨j, hj, rfl, rfl, hbr⟩ := hrel
      have hBr : B ≤ wr.heap.size := by have := hbr.size; omega
      have Hrr := Lib.hid (Hr.out.below (w' := wr) (fun q hq => hbr.block q (by omega)))
      have Hbr := Lib.hid hbr
      clear hbr
      by_cases hlt : j < N
      · have Hs := Lib.hid (tabF_succ j f)
        have hor := or_shlN (t := tabF j f) (x := j) (N := N) (Nat.lt_of_lt_of_le (tabF_lt j _) (Nat.pow_le_pow_right (by decide) hj)) hN16 hlt
        rw [Nat.min_eq_left (by omega)] at hor
        have hv := Hv.out j hlt
        have hw := fun w h hB => Hw.out j w h hB
        rw [hv] at hw
        have Hw1 := Lib.hid hw
        clear hv hw
        generalize tabF j f = T at *
        go_wp2_with fail
        refine (Hw1.out wr Hrr.out hBr).mono ?_
        rintro e w2 ⟨rfl, hb2⟩
        have Hb2 := Lib.hid (Hbr.out.trans (hb2.mono Hbr.out.size))
        clear hb2 Hw1
        cases hh : f j with
        | true =>
          rw [hh, if_pos rfl] at Hs
          have Hs' : Hid (tabF (j + 1) f = T ||| 1 <<< j) := Hs
          clear Hs hh
          go_wp2
          go_roundw
          case rel => exact ⟨j + 1, by omega, by go_num, by rw [Hs'.out, ← hor], Hb2.out⟩
          case measure => simp [intOf]; omega
        | false =>
          rw [hh, if_neg (by decide)] at Hs
          have Hs' : Hid (tabF (j + 1) f = T) := Hs
          clear Hs hh
          go_wp2
          go_roundw
          case rel => exact ⟨j + 1, by omega, by go_num, by rw [Hs'.out], Hb2.out⟩
          case measure => simp [intOf]; omega
      · obtain rfl : j = N := by omega
        go_wp2
        go_ret
        exact ⟨by rw [Hd.out]; rfl, Hbr.out⟩
end Go.Proofs.Ytbcmepcjhobemaa

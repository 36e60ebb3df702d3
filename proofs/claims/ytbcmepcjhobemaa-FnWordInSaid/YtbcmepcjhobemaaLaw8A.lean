/- A law of stage 8: each word means the other one in another land. It answers true, whatever the code. No condition. -/
import Derived.Test.YtbcmepcjhobemaaDrawStr
import Derived.Test.YtbcmepcjhobemaaStrI
import Derived.Test.YtbcmepcjhobemaaAskI
import Derived.Test.YtbcmepcjhobemaaTruthI
import Derived.Test.YtbcmepcjhobemaaLawsA
import Derived.Deep.RegionHeld3
import Derived.Deep.Cut
namespace Go.Proofs.Ytbcmepcjhobemaa
open Go.RowKit Go.Joins
theorem shift_facts8 {p k : Int} (h : l8V p k = true) : ∃ P Q L N : Nat, p = P ∧ P = Q + 1 ∧ L = 2 ^ Q ∧ N = 2 ^ P ∧ N = 2 * L ∧ 1 ≤ Q ∧ Q ≤ 3 ∧ L ≤ 8 ∧ (p - 1).toNat = Q ∧ IntKind.i64.wrap (p - 1) = (Q : Int) ∧ wrap64 (2 ^ Q) = (L : Int) ∧ IntKind.i64.wrap (2 ^ Q) = (L : Int) ∧ wrap64 (2 ^ P) = (N : Int) ∧ IntKind.i64.wrap (2 ^ P) = (N : Int) := by
  obtain ⟨h2, h4, _, _⟩ := l8V_iff.1 h
  have hp : p = 2 ∨ p = 3 ∨ p = 4 := by omega
  rcases hp with rfl | rfl | rfl
  · exact ⟨2, 1, 2, 4, by decide, by decide, by decide, by decide, by decide, by decide, by decide, by decide, by decide, by decide +kernel, by decide +kernel, by decide +kernel, by decide +kernel, by decide +kernel⟩
  · exact ⟨3, 2, 4, 8, by decide, by decide, by decide, by decide, by decide, by decide, by decide, by decide, by decide, by decide +kernel, by decide +kernel, by decide +kernel, by decide +kernel, by decide +kernel⟩
  · exact ⟨4, 3, 8, 16, by decide, by decide, by decide, by decide, by decide, by decide, by decide, by decide, by decide, by decide +kernel, by decide +kernel, by decide +kernel, by decide +kernel, by decide +kernel⟩
theorem wOk_nat8 {P N W : Nat} (h1 : 1 ≤ P) (h4 : P ≤ 4) (hN : N = 2 ^ P) (hW : W < N) : wOk (P : Int) (W : Int) = true :=
  wOk_iff.2 ⟨by omega, by omega, by omega, by rw [Int.toNat_natCast]; rw [hN] at hW; exact_mod_cast hW⟩
theorem and_bit8 {X Q L : Nat} (hL : L = 2 ^ Q) (hX : X < 16) (hL8 : L ≤ 8) : (bits BinOp.and IntKind.i64 (X : Int) (L : Int) != 0) = X.testBit Q := by
  rw [bits_and_nat X L (by omega) (by omega), hL]
  have hb : (X &&& 2 ^ Q).testBit Q = X.testBit Q := by rw [Nat.testBit_and, Nat.testBit_two_pow_self, Bool.and_true]
  cases h : X.testBit Q
  · have h0 : X &&& 2 ^ Q = 0 := Nat.eq_of_testBit_eq fun j => by
      rw [Nat.testBit_and, Nat.zero_testBit, Nat.testBit_two_pow]
      by_cases hj : Q = j
      · rw [← hj, h]; rfl
      · rw [decide_eq_false hj, Bool.and_false]
    rw [h0]; rfl
  · rw [bne_iff_ne]
    intro e
    have e0 : X &&& 2 ^ Q = 0 := by exact_mod_cast e
    rw [e0, Nat.zero_testBit, h] at hb
    cases hb
theorem word_cases8 {p k x : Int} {ms : List (Int × Int)} : wordN p k ms x = -1 ∨ (l8V p k = true ∧ termOk p ms = true ∧ wOk p x = true) := by
  cases h : (l8V p k && (termOk p ms && wOk p x)) with
  | false => exact .inl (wordN_no h)
  | true =>
    simp only [Bool.and_eq_true] at h
    exact .inr ⟨h.1, h.2.1, h.2.2⟩
theorem word_law8 {p k x : Int} {ms : List (Int × Int)} (h : l8V p k = true) (ht : termOk p ms = true) (hx : wOk p x = true) : ∃ (Q L X M Y : Nat) (mt bq : Bool), x = X ∧ X < 16 ∧ Q ≤ 3 ∧ L ≤ 8 ∧ M < 16 ∧ IntKind.i64.wrap (p - 1) = (Q : Int) ∧ wrap64 (2 ^ Q) = (L : Int) ∧ IntKind.i64.wrap (2 ^ Q) = (L : Int) ∧ matterV p ms = (M : Int) ∧ (bits BinOp.and IntKind.i64 (M : Int) (L : Int) != 0) = mt ∧ (bits BinOp.and IntKind.i64 (X : Int) (L : Int) != 0) = bq ∧ bits BinOp.xor IntKind.i64 (X : Int) (L : Int) = (Y : Int) ∧
    (wordN p k ms x = 0 ∨ wordN p k ms x = 1) ∧ (mt = false → wordN p k ms Y = 1 - wordN p k ms x) ∧ (ansN p k ms x == wordN p k ms x) = bq := by
  obtain ⟨P, Q, L, N, e1, e2, e3, e4, e5, e6, e7, e8, e9, e10, e11, e12, e13, e14⟩ := shift_facts8 h
  obtain ⟨_, hkl⟩ := l8V_in h
  obtain ⟨_, _, hx0, hx16⟩ := wOk_lt hx
  obtain ⟨_, _, _, hxN⟩ := wOk_iff.1 hx
  obtain ⟨X, rfl⟩ := Int.eq_ofNat_of_zero_le hx0
  have hXN : X < 2 ^ p.toNat := by exact_mod_cast hxN
  have hM16 : matterN p (tmOf p ms) < 16 := by
    have h1 := tabF_lt p.toNat (matters p (tmOf p ms))
    have h2 : 2 ^ p.toNat ≤ 16 := two16 (by have := (l8V_iff.1 h).2.1; omega)
    exact Nat.lt_of_lt_of_le h1 h2
  have hmb := matter_bit ht hkl
  rw [e9] at hmb
  refine ⟨Q, L, X, matterN p (tmOf p ms), X ^^^ L, _, _, rfl, by omega, e7, e8, hM16, e10, e11, e12, matterV_yes ht, and_bit8 e3 hM16 e8, and_bit8 e3 (by omega) e8, bits_xor_nat X L (by omega) (by omega), ?_, fun hm => ?_, ?_⟩
  · rw [wordN_yes h ht hx]
    cases wordT p k ms (X : Int).toNat
    · exact .inl rfl
    · exact .inr rfl
  · have hmf : matters p (tmOf p ms) (p - 1).toNat = false := by
      rw [e9]
      rw [← hmb]; exact hm
    have hf := word_flip h ht hXN hmf
    have hY : X ^^^ L < 2 ^ p.toNat := by
      have h2 : L < 2 ^ p.toNat := by rw [show p.toNat = Q + 1 by omega, Nat.pow_succ]; have := Nat.two_pow_pos Q; omega
      exact Nat.xor_lt_two_pow hXN h2
    have hYok : wOk p ((X ^^^ L : Nat) : Int) = true := wOk_iff.2 ⟨by have := (l8V_iff.1 h).1; omega, (l8V_iff.1 h).2.1, by omega, by exact_mod_cast hY⟩
    rw [wordN_yes h ht hYok, wordN_yes h ht hx, Int.toNat_natCast, Int.toNat_natCast]
    rw [e9, Nat.one_shiftLeft, ← e3] at hf
    rw [hf]
    cases wordT p k ms X <;> rfl
  · have hw := word_ans h ht hx
    rw [Int.toNat_natCast, e9] at hw
    exact hw.symm
end Go.Proofs.Ytbcmepcjhobemaa
namespace Go.Proofs.Ytbcmepcjhobemaa.fnWordIn
open Go.ChangeShapes Go.WideShapes Go.ChangeAt Go.RowKit Go.Joins
attribute [local irreducible] holds tabN tabV holdsV sameV followsV alwaysV matterV mirV mirOk mcells tmOf claimOk mayT mayV ctabV ctabN storyV storyOk storyN storyT ctermV ctermL denyV denyOk ccells ansN inOk chainL chainOk chainV alikeV liesN matterN matters l8V wordT wordN strL strOk strV wtabN wtabV
open Go.ChangeMaps (open_string shut_string)
set_option linter.unusedVariables false
set_option maxRecDepth 100000 in
set_option maxHeartbeats 8000000 in
theorem walk (a0 : Value) (n0 : Nat) (w : World) (w0 : RdBytes w w.heap.size a0 n0) :
    Calls Try.prog 3 #[a0] w fun e w' => e = .returned (.bool true) ∧ Below w.heap.size w w' := by
  have hr := w0
  by_cases hbig : n0 ≤ 1048576
  case neg =>
    obtain ⟨ao, cap, rfl, hl, hm, hc⟩ := w0
    have hbig' := code_big hbig
    unfold maxLen at hm
    clear hc hr hbig
    go_enter Try.func3, Try.ntmps3
    go_wp2
    go_ret
    exact ⟨rfl, Below.refl _ _⟩
  have hbig' : (n0 : Int) ≤ 1048576 := by omega
  clear hbig
  obtain ⟨ao, cap, rfl, hl, hm, hc⟩ := w0
  have Hr := Lib.hid hr
  clear hc hr hl hm
  go_enter Try.func3, Try.ntmps3
  go_wp2_with fail
  refine (drawWordIn _ _ _ Hr.out).mono ?_
  rintro e w1 ⟨p, k, g, cp, ms, x, hp1, hp4, hk0, hk8, rfl, hown, hi, hn, hx0, hx100, hB1⟩
  have HO1 := Lib.hid hown
  have Hi := Lib.hid hi
  have HK : Hid (I64 k) := I64_small (by omega) (by omega)
  clear hown hi
  have him := fun B u W h h2 => implWordIn p k x ms B u W h h2
  have hsp := fun B u W h h2 => specWordIn p k x ms B u W h h2
  rcases word_cases8 (p := p) (k := k) (x := x) (ms := ms) with hV | ⟨h8, ht, hx⟩
  · rw [hV] at him hsp
    have Him := Lib.hid him
    have Hsp := Lib.hid hsp
    clear him hsp hV
    go_wp2_with fail
    refine (Him.out _ _ _ (RdMarks.of_own HO1.out Hi.out) (Nat.le_refl _)).mono ?_
    rintro e w2 ⟨rfl, hb2⟩
    have HO2 := Lib.hid (own_below HO1.out hb2)
    have hB2 : Below w.heap.size w w2 := hB1.trans (hb2.mono hB1.size)
    clear hb2 
    go_wp2_with fail
    refine (Hsp.out _ _ _ (RdMarks.of_own HO2.out Hi.out) (Nat.le_refl _)).mono ?_
    rintro e w3 ⟨rfl, hb3⟩
    have HO3 := Lib.hid (own_below HO2.out hb3)
    have hB3 : Below w.heap.size w w3 := hB2.trans (hb3.mono hB2.size)
    clear hb3 
    go_wp2_with fail
    refine (alive _).mono ?_
    rintro e w' ⟨rfl, rfl⟩
    go_wp2
    go_ret
    exact ⟨rfl, hB3⟩
  · obtain ⟨Q, L, X, M, Y, mt, bq, rfl, hX16, hQ3, hL8, hM16, hwp, hsh, hsh2, hmv, hmt, hbq, hxo, h01, hflip, hA⟩ := word_law8 h8 ht hx
    have Hmv := Lib.hid (fun B u W h h2 => implMatterIn p ms B u W h h2)
    rw [hmv] at Hmv
    have hfl := fun B u W h h2 => implWordIn p k Y ms B u W h h2
    have han := fun B u W h h2 => implAnswerIn p k X ms B u W h h2
    have hmn : min Q 64 = Q := by omega
    generalize wordN p k ms Y = V2 at *
    generalize ansN p k ms X = A at *
    generalize wordN p k ms X = V at *
    have Him := Lib.hid him
    have Hsp := Lib.hid hsp
    have Hfl := Lib.hid hfl
    have Han := Lib.hid han
    clear him hsp hfl han h8 ht hx hmv
    have hVn : ¬ (V < 0) := by omega
    have hV1 : V ≤ 1 := by omega
    go_wp2_with fail
    refine (Him.out _ _ _ (RdMarks.of_own HO1.out Hi.out) (Nat.le_refl _)).mono ?_
    rintro e w2 ⟨rfl, hb2⟩
    have HO2 := Lib.hid (own_below HO1.out hb2)
    have hB2 : Below w.heap.size w w2 := hB1.trans (hb2.mono hB1.size)
    clear hb2 
    go_wp2_with fail
    refine (Hsp.out _ _ _ (RdMarks.of_own HO2.out Hi.out) (Nat.le_refl _)).mono ?_
    rintro e w3 ⟨rfl, hb3⟩
    have HO3 := Lib.hid (own_below HO2.out hb3)
    have hB3 : Below w.heap.size w w3 := hB2.trans (hb3.mono hB2.size)
    clear hb3 
    go_wp2_with fail
    refine (Hmv.out _ _ _ (RdMarks.of_own HO3.out Hi.out) (Nat.le_refl _)).mono ?_
    rintro e w4 ⟨rfl, hb4⟩
    have HO4 := Lib.hid (own_below HO3.out hb4)
    have hB4 : Below w.heap.size w w4 := hB3.trans (hb4.mono hB3.size)
    clear hb4 
    cases mt with
    | true =>
      clear hflip Hfl
      go_wp2_with fail
      refine (Han.out _ _ _ (RdMarks.of_own HO4.out Hi.out) (Nat.le_refl _)).mono ?_
      rintro e w5 ⟨rfl, hb5⟩
      have HO5 := Lib.hid (own_below HO4.out hb5)
      have hB5 : Below w.heap.size w w5 := hB4.trans (hb5.mono hB4.size)
      clear hb5 
      cases bq
      all_goals
        go_wp2
        go_ret
        exact ⟨rfl, hB5⟩
    | false =>
      have hv2 := hflip rfl
      subst hv2
      clear hflip
      have hw1 : IntKind.i64.wrap (1 - V) = 1 - V := IntWalk.i64_in _ (by omega)
      go_wp2_with fail
      refine (Hfl.out _ _ _ (RdMarks.of_own HO4.out Hi.out) (Nat.le_refl _)).mono ?_
      rintro e w5 ⟨rfl, hb5⟩
      have HO5 := Lib.hid (own_below HO4.out hb5)
      have hB5 : Below w.heap.size w w5 := hB4.trans (hb5.mono hB4.size)
      clear hb5 
      go_wp2_with fail
      refine (Han.out _ _ _ (RdMarks.of_own HO5.out Hi.out) (Nat.le_refl _)).mono ?_
      rintro e w6 ⟨rfl, hb6⟩
      have HO6 := Lib.hid (own_below HO5.out hb6)
      have hB6 : Below w.heap.size w w6 := hB5.trans (hb6.mono hB5.size)
      clear hb6 
      cases bq
      all_goals
        go_wp2
        go_ret
        exact ⟨rfl, hB6⟩

set_option maxRecDepth 100000 in
theorem lifted (os : Os) (started : os.Started) (H : Type) (enc : TypeId × Value → H) :
    ReturnsInHanded {} Try.checked os 3 .any (Rows.fnWordInSpec.pre6 enc Try.prog Try.f3 Rows.fnWordInRow.domain false) (Rows.fnWordInSpec.post enc Try.prog Try.f3 false true false false) := by
  refine returnsInHanded_of_change (C := Try.checked) Try.own started (by kernel_rfl) Try.func3
    (ChangeSpec.witness6 (enc := enc) (C := Try.checked) false ⟨#[], #[.slice none 0 0], []⟩ 8 (by kernel_rfl) (by kernel_rfl) (by kernel_rfl) (by kernel_rfl)) ?_
  intro W base args ds gs before hval0 hW hcnd _
  have hval : ∀ (j : Nat) t v, Try.f3.params[j]? = some t → args[j]? = some v → Value.okWide Try.prog W .any base t v := hval0
  have hW' := hW
  obtain ⟨p, q, hA0, hV, rfl, hfz, hnd⟩ := hW
  have hA : DataW.TrodAll enc Try.prog W 0 (fun _ => true) true Try.f3.params.toList args.toList ds p := hA0
  rw [Try.params3] at hA hval
  obtain ⟨v0, vs0, d0, ds0, p0, q0, hargs, rfl, rfl, h0, r0⟩ := trodAll_cons hA
  obtain ⟨rfl, rfl, rfl⟩ := trodAll_nil r0
  obtain rfl : args = #[v0] := by cases args; simp_all
  obtain ⟨rfl, rfl⟩ := trodVars_none hV
  obtain ⟨a0, len0, cap0, rfl⟩ := okWide_slice Try.underlying22 (hval 0 22 v0 rfl rfl)
  have k0 := h0
  have lt0 : ∀ x ∈ p0, x.block < W.heap.size := by obtain ⟨m, hm⟩ := k0; exact DataW.trod_lt m _ _ _ hm
  obtain ⟨z0, w0⟩ : ∃ zs, IsRow .u8 W a0 len0 cap0 zs := by
    obtain ⟨fuel, hf⟩ := h0
    rcases open_ints Try.underlying22 Try.underlying5 (by kernel_rfl) hf with ⟨hcs, _⟩ | ⟨x, l, c, zs, hcs, _, hl, hm, hz, _, hcell, hwz⟩
    · simp [Value.cells] at hcs
      obtain ⟨rfl, rfl, rfl⟩ := hcs
      exact ⟨[], .inl ⟨rfl, rfl, rfl, rfl⟩⟩
    · simp [Value.cells] at hcs
      obtain ⟨rfl, rfl, rfl⟩ := hcs
      exact ⟨zs, .inr ⟨_, rfl, hl, hm, by simpa using hz, hcell, hwz⟩⟩
  clear hA0 hval0
  refine (walk _ _ W (RdBytes.of_row w0)).mono fun e W' ⟨he, bel⟩ => ?_
  subst he
  exact ⟨_, rfl, _, _, _, [], _, [], hW', trodAll_mk1 (shut_bool Try.underlying4 _), (trodAll_cons_mk (Below.trod Try.laidOut (by kernel_rfl) (of_decide_eq_true (by kernel_rfl)) k0 bel lt0) trodAll_mk0), rfl, bel.frame _, fun h => by cases h⟩

theorem closed : joinedFacts Try.pinned.checked.prog 3 Try.f3 Rows.fnWordInSpec Rows.fnWordInRow = true := by
  unfold joinedFacts
  exact (and_tt (and_tt (and_tt (and_tt (and_tt (and_tt (and_tt (and_tt (and_tt (and_tt (and_tt (and_tt (and_tt (and_tt (and_tt (and_tt (and_tt (and_tt (and_tt (and_tt (and_tt (and_tt (and_tt (and_tt (and_tt (and_tt (and_tt (and_tt (and_tt (and_tt (and_tt (by kernel_rfl) (by kernel_rfl)) (by kernel_rfl)) (by kernel_rfl)) (by kernel_rfl)) (by kernel_rfl)) (by kernel_rfl)) (by kernel_rfl)) (by kernel_rfl)) (by kernel_rfl)) (by kernel_rfl)) (by kernel_rfl)) (by kernel_rfl)) (by kernel_rfl)) (by kernel_rfl)) (by kernel_rfl)) (by kernel_rfl)) (by kernel_rfl)) (by kernel_rfl)) (by kernel_rfl)) (by kernel_rfl)) (by kernel_rfl)) (by kernel_rfl)) (by kernel_rfl)) (by kernel_rfl)) Try.mayEnter0) (lifted_tt Try.lifts0 rfl)) (make_tt Try.make0 rfl)) (by kernel_rfl)) (by kernel_rfl)) (by kernel_rfl)) (by kernel_rfl))
theorem over : Rows.fnWordInRow.holds Try.pinned (OpenSpec.ofChange Rows.fnWordInSpec) :=
  OpenClaim.holds_of_wide 3 Try.f3 rfl rfl rfl rfl rfl rfl rfl ⟨rfl, rfl, rfl, rfl, rfl⟩ rfl rfl rfl rfl rfl (by kernel_rfl) Try.func3 closed
    (of_decide_eq_true (by kernel_rfl)) (by unfold Func.isWrapper; first | (rw [if_pos (by decide +kernel)]; kernel_rfl) | (rw [if_neg (by decide +kernel)]; exact ⟨rfl, rfl⟩))
    (fun os started H enc _ => lifted os started H enc)

theorem proved : Rows.FnWordInSaid := over
end Go.Proofs.Ytbcmepcjhobemaa.fnWordIn


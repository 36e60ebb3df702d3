/- Contracts of the program's functions of strange words. -/
import Derived.Test.YtbcmepcjhobemaaStr
import Derived.Test.YtbcmepcjhobemaaAskI
namespace Go.Proofs.Ytbcmepcjhobemaa
open Go.RowKit Go.Joins
theorem l8V_people {p k : Int} : l8V p k = (pOk p && decide (0 ≤ k ∧ k < p - 1)) := by
  rw [Bool.eq_iff_iff, l8V_iff]
  simp [pOk]
  omega
theorem strV_chain {p k : Int} {ms : List (Int × Int)} (h : l8V p k = true) : chainV p [k, p - 1] ms = strV p k ms ∧ chainOk p [k, p - 1] ms = strOk p k ms := by
  have e : chainOk p [k, p - 1] ms = strOk p k ms := by unfold chainOk strOk strL; rw [h]; rfl
  refine ⟨?_, e⟩
  unfold chainV strV
  rw [e]
  rfl
theorem word_said {p k x : Int} {ms : List (Int × Int)} (h : l8V p k = true) (ht : termOk p ms = true) (hx : wOk p x = true) : wordN p k ms x = if (ansN p k ms x == (if x.toNat.testBit (p - 1).toNat then 1 else 0)) then 1 else 0 := by
  obtain ⟨hk, _⟩ := l8V_in h
  rw [wordN_yes h ht hx, ansN_yes ht hx hk]
  unfold wordT
  cases mayT p (k, ms) x.toNat <;> cases x.toNat.testBit (p - 1).toNat <;> rfl
theorem bit_val {X Q : Nat} (hX : X < 16) : bits BinOp.and IntKind.i64 ((X : Int) / 2 ^ Q) 1 = if X.testBit Q then 1 else 0 := and_one_val (by omega)
theorem or_none {T : Nat} (h : T < 2 ^ 16) : bits BinOp.or IntKind.i64 (T : Int) 0 = (T : Int) := by
  have := bits_or_nat T 0 (by omega) (by decide)
  rw [Nat.or_zero] at this
  exact this
/-- the list of the two people whom a strange question goes through -/
theorem two_ints (w : World) (k q : Int) (T : TypeId) : RdInts (w.alloc (.cells #[.int .i64 k, .int .i64 q] T)) (w.heap.size + 1) (.slice (some ⟨w.heap.size, 0, none⟩) 2 2) [k, q] := by
  have h := RdInts.of_own (w := w.alloc (.cells #[.int .i64 k, .int .i64 q] T)) (base := w.heap.size) (e := T) (v := .slice (some ⟨w.heap.size, 0, none⟩) 2 2) (zs := [k, q])
    ⟨rfl, .inr ⟨w.heap.size, 2, _, rfl, Nat.le_refl _, heap_alloc_new w _, Nat.le_refl _, by unfold maxLen; omega, rfl, rfl⟩⟩
  simpa using h
attribute [local irreducible] holds tabN tabV holdsV sameV followsV alwaysV matterV claimOk mayT mayV ctabV ctabN storyV storyOk storyN storyT ctermV ctermL ansN inOk chainL chainOk chainV alikeV liesN mcells l8V wordT wordN strL strOk strV wtabN wtabV
set_option maxHeartbeats 1000000 in
theorem implAskedOk (p k : Int) (w : World) :
    Calls Try.prog 36 #[.int .i64 p, .int .i64 k] w fun e w' => e = .returned (.bool (l8V p k)) ∧ w = w' := by
  have Hf := Lib.hid (l8V_people (p := p) (k := k))
  cases hp : pOk p with
  | false =>
    rw [hp] at Hf
    have Hp := Lib.hid hp; clear hp
    go_enter Try.func36, Try.ntmps36
    go_wp2_with fail
    refine (implPeopleOk _ _).mono ?_
    rintro e w' ⟨rfl, rfl⟩
    rw [Hp.out]
    go_wp2
    go_ret
    exact ⟨by rw [Hf.out]; rfl, rfl⟩
  | true =>
    rw [hp] at Hf
    have h14 : 1 ≤ p ∧ p ≤ 4 := by simpa [pOk] using hp
    have hwp : IntKind.i64.wrap (p - 1) = p - 1 := IntWalk.i64_in _ (by omega)
    have Hp := Lib.hid hp; clear hp h14
    go_enter Try.func36, Try.ntmps36
    go_wp2_with fail
    refine (implPeopleOk _ _).mono ?_
    rintro e w' ⟨rfl, rfl⟩
    rw [Hp.out]
    go_wp2_with fail
    refine (implPersonOk _ _ _).mono ?_
    rintro e w' ⟨rfl, rfl⟩
    go_wp2
    go_ret
    exact ⟨ret_bool (by rw [Hf.out]; simp [Bool.decide_and]), rfl⟩
set_option maxRecDepth 100000 in
set_option maxHeartbeats 2000000 in
theorem implWordIn (p k x : Int) (ms : List (Int × Int)) (B : Nat) (u : Value) (w : World) (hr : RdMarks w B u ms) (hB : B ≤ w.heap.size) :
    Calls Try.prog 11 #[.int .i64 p, .int .i64 k, u, .int .i64 x] w fun e w' => e = .returned (.int .i64 (wordN p k ms x)) ∧ Below w.heap.size w w' := by
  have hso := fun w h hB => implTermOk p ms B u w h hB
  cases h8 : l8V p k with
  | false =>
    have Hf := Lib.hid (wordN_no (p := p) (k := k) (x := x) (ms := ms) (by rw [h8]; rfl))
    have H8 := Lib.hid h8
    clear hso h8
    go_enter Try.func11, Try.ntmps11
    go_wp2_with fail
    refine (implAskedOk _ _ _).mono ?_
    rintro e w' ⟨rfl, rfl⟩
    rw [H8.out]
    go_wp2
    go_ret
    exact ⟨by rw [Hf.out]; rfl, Below.refl _ _⟩
  | true =>
  cases hx : wOk p x with
  | false =>
    have Hf := Lib.hid (wordN_no (p := p) (k := k) (x := x) (ms := ms) (by rw [hx]; simp))
    have H8 := Lib.hid h8
    have Hx := Lib.hid hx
    clear hso h8 hx
    go_enter Try.func11, Try.ntmps11
    go_wp2_with fail
    refine (implAskedOk _ _ _).mono ?_
    rintro e w' ⟨rfl, rfl⟩
    rw [H8.out]
    go_wp2_with fail
    refine (implWorldOk _ _ _).mono ?_
    rintro e w' ⟨rfl, rfl⟩
    rw [Hx.out]
    go_wp2
    go_ret
    exact ⟨by rw [Hf.out]; rfl, Below.refl _ _⟩
  | true =>
  cases ht : termOk p ms with
  | false =>
    have Hf := Lib.hid (wordN_no (p := p) (k := k) (x := x) (ms := ms) (by rw [ht]; simp))
    have H8 := Lib.hid h8
    have Hx := Lib.hid hx
    rw [ht] at hso
    have Hso := Lib.hid hso
    have Hr := Lib.hid hr
    clear hso h8 ht hx hr
    go_enter Try.func11, Try.ntmps11
    go_wp2_with fail
    refine (implAskedOk _ _ _).mono ?_
    rintro e w' ⟨rfl, rfl⟩
    rw [H8.out]
    go_wp2_with fail
    refine (implWorldOk _ _ _).mono ?_
    rintro e w' ⟨rfl, rfl⟩
    rw [Hx.out]
    go_wp2_with fail
    refine (Hso.out _ Hr.out hB).mono ?_
    rintro e w2 ⟨rfl, hb2⟩
    have Hb2 := Lib.hid hb2; clear hb2
    go_wp2
    go_ret
    exact ⟨by rw [Hf.out]; rfl, Hb2.out⟩
  | true =>
    obtain ⟨_, _, hx0, hx16⟩ := wOk_lt hx
    obtain ⟨X, rfl⟩ := Int.eq_ofNat_of_zero_le hx0
    obtain ⟨h2, h4, h0, hk2⟩ := l8V_iff.1 h8
    obtain ⟨Q, hQ⟩ := Int.eq_ofNat_of_zero_le (show 0 ≤ p - 1 by omega)
    have Hf := Lib.hid (word_said h8 ht hx)
    rw [Int.toNat_natCast, show (p - 1).toNat = Q by omega] at Hf
    have Hm := Lib.hid (fun w h hB => implAnswerIn p k X ms B u w h hB)
    have Hbv := Lib.hid (bit_val (X := X) (Q := Q) (by omega))
    have hwp : IntKind.i64.wrap (p - 1) = (Q : Int) := by rw [← hQ]; exact IntWalk.i64_in _ (by omega)
    have hmn : min Q 64 = Q := by omega
    have hQ4 : Q < 4 := by omega
    have H8 := Lib.hid h8
    have Hx := Lib.hid hx
    have Hr := Lib.hid hr
    rw [ht] at hso
    have Hso := Lib.hid hso; clear hso ht hx h8 hQ h2 h4 hk2 h0 hr
    generalize ansN p k ms X = o at *
    generalize X.testBit Q = b at *
    go_enter Try.func11, Try.ntmps11
    go_wp2_with fail
    refine (implAskedOk _ _ _).mono ?_
    rintro e w' ⟨rfl, rfl⟩
    rw [H8.out]
    go_wp2_with fail
    refine (implWorldOk _ _ _).mono ?_
    rintro e w' ⟨rfl, rfl⟩
    rw [Hx.out]
    go_wp2_with fail
    refine (Hso.out _ Hr.out hB).mono ?_
    rintro e w2 ⟨rfl, hb2⟩
    have Hr2 := Lib.hid (Hr.out.below (w' := w2) (fun q hq => hb2.block q (by omega)))
    have hB2 : B ≤ w2.heap.size := by have := hb2.size; omega
    have Hb2 := Lib.hid hb2; clear hb2
    go_wp2_with fail
    refine (Hm.out _ Hr2.out hB2).mono ?_
    rintro e w3 ⟨rfl, hb3⟩
    have Hb3 := Lib.hid (Hb2.out.trans (hb3.mono Hb2.out.size)); clear hb3
    rw [Hbv.out]
    generalize (if b = true then (1 : Int) else 0) = v at *
    cases hov : (o == v)
    all_goals
      rw [hov] at Hf
      go_wp2
      go_ret
      exact ⟨by rw [Hf.out]; rfl, Hb3.out⟩
set_option maxRecDepth 100000 in
set_option maxHeartbeats 2000000 in
theorem implStrangeTerm (p k : Int) (ms : List (Int × Int)) (hk : I64 k) (hlen : ms.length ≤ 2000000) (B : Nat) (u : Value) (w : World) (hr : RdMarks w B u ms) (hB : B ≤ w.heap.size) :
    Calls Try.prog 17 #[.int .i64 p, .int .i64 k, u] w (RowOk (strV p k ms) (strOk p k ms) w) := by
  cases h8 : l8V p k with
  | false =>
    have hn : strOk p k ms = false := by rw [strOk_def, h8]; rfl
    rw [strV_no p k ms hn, hn]
    have H8 := Lib.hid h8
    clear h8 hn hr
    go_enter Try.func17, Try.ntmps17
    go_wp2_with fail
    refine (implAskedOk _ _ _).mono ?_
    rintro e w' ⟨rfl, rfl⟩
    rw [H8.out]
    go_wp2
    go_ret2
    exact ⟨_, rfl, by rw [mcells_nil7]; exact World.ownsRow_nil _ _ _ _, Below.refl _ _⟩
  | true =>
    obtain ⟨h2, h4, h0, hk2⟩ := l8V_iff.1 h8
    obtain ⟨e1, e2⟩ := strV_chain (ms := ms) h8
    have hp1 : I64 (p - 1) := I64_small (by omega) (by omega)
    have hwp : IntKind.i64.wrap (p - 1) = p - 1 := IntWalk.i64_in _ (by omega)
    have H8 := Lib.hid h8
    have hz : ∀ z ∈ [k, p - 1], I64 z := by
      intro z hz
      simp only [List.mem_cons, List.not_mem_nil, or_false] at hz
      rcases hz with rfl | rfl
      · exact hk
      · exact hp1
    rw [← e1, ← e2]
    have hbw : Below w.heap.size w (w.alloc (.cells #[.int .i64 k, .int .i64 (p - 1)] 3)) := (Below.refl _ _).alloc (Nat.le_refl _) _
    have Hbw := Lib.hid hbw
    have Hcall := Lib.hid (implChainTerm p [k, p - 1] ms hz (by simp) hlen (w.heap.size + 1) (.slice (some ⟨w.heap.size, 0, none⟩) 2 2) u _ (two_ints w k (p - 1) 3) ((hr.below (w' := w.alloc (.cells #[.int .i64 k, .int .i64 (p - 1)] 3)) (fun q hq => hbw.block q (by omega))).mono (by omega)) (by simp))
    clear hz hp1 h2 h4 h0 hk2 h8 hbw hr e1 e2
    go_enter Try.func17, Try.ntmps17
    go_wp2_with fail
    refine (implAskedOk _ _ _).mono ?_
    rintro e w' ⟨rfl, rfl⟩
    rw [H8.out]
    go_wp2_with fail
    refine Hcall.out.mono ?_
    rintro e w3 ⟨v, rfl, ho, hb3⟩
    have Ho := Lib.hid (own_mono ho (show w.heap.size ≤ (w.alloc (.cells #[.int .i64 k, .int .i64 (p - 1)] 3)).heap.size by simp))
    have Hb3 := Lib.hid (Hbw.out.trans (hb3.mono (by simp))); clear hb3 ho
    go_wp2
    go_ret2
    exact ⟨_, rfl, Ho.out, Hb3.out⟩
theorem word_bit {p k : Int} {ms : List (Int × Int)} (h : l8V p k = true) (ht : termOk p ms = true) {N : Nat} (hN : N = 2 ^ p.toNat) (W : Nat) (hW : W < N) : wordN p k ms W = if wordT p k ms W then 1 else 0 := by
  obtain ⟨h2, h4, _, _⟩ := l8V_iff.1 h
  have hx : wOk p W = true := wOk_iff.2 ⟨by omega, by omega, by omega, by rw [hN] at hW; exact_mod_cast hW⟩
  rw [wordN_yes h ht hx, Int.toNat_natCast]
set_option maxRecDepth 100000 in
set_option maxHeartbeats 2000000 in
theorem implWordTable (p k : Int) (ms : List (Int × Int)) (B : Nat) (u : Value) (w : World) (hr : RdMarks w B u ms) (hB : B ≤ w.heap.size) :
    Calls Try.prog 23 #[.int .i64 p, .int .i64 k, u] w fun e w' => e = .returned (.int .i64 (wtabV p k ms)) ∧ Below w.heap.size w w' := by
  have hso := fun w h hB => implTermOk p ms B u w h hB
  cases h8 : l8V p k with
  | false =>
    have Hf := Lib.hid (wtabV_no (p := p) (k := k) (ms := ms) (by rw [h8]; rfl))
    have H8 := Lib.hid h8
    clear hso h8
    go_enter Try.func23, Try.ntmps23
    go_wp2_with fail
    refine (implAskedOk _ _ _).mono ?_
    rintro e w' ⟨rfl, rfl⟩
    rw [H8.out]
    go_wp2
    go_ret
    exact ⟨by rw [Hf.out]; rfl, Below.refl _ _⟩
  | true =>
  cases ht : termOk p ms with
  | false =>
    have Hf := Lib.hid (wtabV_no (p := p) (k := k) (ms := ms) (by rw [ht]; simp))
    have H8 := Lib.hid h8
    rw [ht] at hso
    have Hso := Lib.hid hso
    have Hr := Lib.hid hr
    clear hso h8 ht hr
    go_enter Try.func23, Try.ntmps23
    go_wp2_with fail
    refine (implAskedOk _ _ _).mono ?_
    rintro e w' ⟨rfl, rfl⟩
    rw [H8.out]
    go_wp2_with fail
    refine (Hso.out _ Hr.out hB).mono ?_
    rintro e w2 ⟨rfl, hb2⟩
    have Hb2 := Lib.hid hb2; clear hb2
    go_wp2
    go_ret
    exact ⟨by rw [Hf.out]; rfl, Hb2.out⟩
  | true =>
    obtain ⟨h1, h4⟩ := p_of ht
    obtain ⟨N, hN⟩ : ∃ N : Nat, N = 2 ^ p.toNat := ⟨_, rfl⟩
    have hN16 : N ≤ 16 := by rw [hN]; exact two16 (by omega)
    have Hcnt := Lib.hid (fun w => implWorldCount p N (by rw [hN]; exact cnt_of p) h1 h4 w)
    have hv := wtabV_yes h8 ht
    unfold wtabN at hv
    rw [← hN] at hv
    have Hv := Lib.hid hv
    have Hk := Lib.hid (fun W hW => word_bit h8 ht hN W hW)
    have Hc := Lib.hid (fun (W : Nat) w h hB => implWordIn p k W ms B u w h hB)
    have H8 := Lib.hid h8
    rw [ht] at hso
    have Hso := Lib.hid hso
    have Hr := Lib.hid hr
    clear hso h8 ht h1 h4 hv hr hN
    obtain ⟨M, hM⟩ : ∃ M : Nat → Bool, M = wordT p k ms := ⟨_, rfl⟩
    rw [← hM] at Hv
    simp only [← hM] at Hk
    clear hM
    obtain ⟨wo, rfl⟩ : ∃ wo : World, wo = w := ⟨_, rfl⟩
    go_enter Try.func23, Try.ntmps23
    go_wp2_with fail
    refine (implAskedOk _ _ _).mono ?_
    rintro e w' ⟨rfl, rfl⟩
    rw [H8.out]
    go_wp2_with fail
    refine (Hso.out _ Hr.out hB).mono ?_
    rintro e w1 ⟨rfl, hb1⟩
    have Hb1 := Lib.hid hb1; clear hb1
    go_wp2_with fail
    refine (Hcnt.out _).mono ?_
    rintro e w' ⟨rfl, rfl⟩
    go_wp2_with fail
    go_loopw [7, 8, 21] (fun t' _ i wr => ∃ j : Nat, j ≤ N ∧ i = .int .i64 j ∧ t' = .int .i64 (tabF j M) ∧ Below wo.heap.size wo wr) (fun _ _ i _ => N - (intOf i).toNat)
    case atStart => exact ⟨0, Nat.zero_le _, rfl, rfl, Hb1.out⟩
    case round =>
      obtain ⟨j, hj, rfl, rfl, hbr⟩ := hrel
      have hBr : B ≤ wr.heap.size := by have := hbr.size; omega
      have Hrr := Lib.hid (Hr.out.below (fun q hq => hbr.block q (by omega)))
      have Hbr := Lib.hid hbr
      clear hbr
      by_cases hlt : j < N
      · have Hs := Lib.hid (tabF_succ j M)
        have Hkk := Hk.out j hlt
        have Hck := Lib.hid (Hc.out j)
        have hor := or_shlN (t := tabF j M) (x := j) (N := N) (Nat.lt_of_lt_of_le (tabF_lt j _) (Nat.pow_le_pow_right (by decide) hj)) hN16 hlt
        rw [Nat.min_eq_left (by omega)] at hor
        have hor0 : bits BinOp.or IntKind.i64 (tabF j M : Int) 0 = (tabF j M : Int) := or_none (Nat.lt_of_lt_of_le (tabF_lt j _) (Nat.pow_le_pow_right (by decide) (show j ≤ 16 by omega)))
        have hmn : min j 64 = j := by omega
        generalize tabF j M = T at *
        generalize M j = o at *
        rw [Hkk] at Hck
        clear Hkk
        cases o with
        | true =>
          have Hs' : Hid (tabF (j + 1) M = T ||| 1 <<< j) := by
            have := Hs.out; rw [if_pos rfl] at this; exact this
          rw [if_pos rfl] at Hck
          clear Hs hor0
          go_wp2_with fail
          refine (Hck.out wr Hrr.out hBr).mono ?_
          rintro e w2 ⟨rfl, hb2⟩
          have Hb2 := Lib.hid (Hbr.out.trans (hb2.mono Hbr.out.size))
          clear hb2
          go_wp2
          go_roundw
          case rel => exact ⟨j + 1, by omega, by go_num, by rw [Hs'.out, ← hor], Hb2.out⟩
          case measure => simp [intOf]; omega
        | false =>
          have Hs' : Hid (tabF (j + 1) M = T) := by
            have := Hs.out; rw [if_neg (by decide)] at this; exact this
          rw [if_neg (by decide)] at Hck
          clear Hs hor
          go_wp2_with fail
          refine (Hck.out wr Hrr.out hBr).mono ?_
          rintro e w2 ⟨rfl, hb2⟩
          have Hb2 := Lib.hid (Hbr.out.trans (hb2.mono Hbr.out.size))
          clear hb2
          go_wp2
          go_roundw
          case rel => exact ⟨j + 1, by omega, by go_num, by rw [Hs'.out], Hb2.out⟩
          case measure => simp [intOf]; omega
      · obtain rfl : j = N := Nat.le_antisymm hj (Nat.le_of_not_lt hlt)
        go_wp2
        go_ret
        exact ⟨by rw [Hv.out]; rfl, Hbr.out⟩
end Go.Proofs.Ytbcmepcjhobemaa

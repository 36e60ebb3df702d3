/- Contracts of the program's answers, tricks and of who is asked alike. -/
import Derived.Test.YtbcmepcjhobemaaAskC
import Derived.Test.YtbcmepcjhobemaaAskD
import Derived.Test.YtbcmepcjhobemaaTruthI
import Derived.Test.YtbcmepcjhobemaaJust
namespace Go.Proofs.Ytbcmepcjhobemaa
open Go.RowKit Go.Joins
theorem ans_holds {p k x : Int} {ms : List (Int × Int)} (h1 : termOk p ms = true) (h2 : wOk p x = true) (h3 : inOk p k = true) : ansN p k ms x = if (x.toNat.testBit k.toNat == holdsV p ms x) then 1 else 0 := by
  rw [ansN_yes h1 h2 h3]
  unfold holdsV mayT
  dsimp only
  rw [h1, h2]
  rfl
theorem trick_no {p k : Int} {ms : List (Int × Int)} (h : claimOk p (k, ms) = false) : ctermV p (k, ms) = [] := by rw [ctermV_of, h]; rfl
theorem trick_yes {p k : Int} {ms : List (Int × Int)} (h : claimOk p (k, ms) = true) : ctermV p (k, ms) = ctermL (k, ms) := by rw [ctermV_of, h]; rfl
theorem ans_alike {p k x y : Int} {ms : List (Int × Int)} (h1 : termOk p ms = true) (h3 : inOk p k = true) (hx : wOk p x = true) (hy : wOk p y = true) : (ansN p k ms x = ansN p k ms y) ↔ mayT p (k, ms) x.toNat = mayT p (k, ms) y.toNat := by
  rw [ansN_yes h1 hx h3, ansN_yes h1 hy h3]
  cases mayT p (k, ms) x.toNat <;> cases mayT p (k, ms) y.toNat <;> simp
attribute [local irreducible] holds tabN tabV holdsV sameV followsV alwaysV matterV claimOk mayT mayV ctabV ctabN storyV storyOk storyN storyT ctermV ctermL ansN inOk chainL chainOk chainV alikeV liesN mcells
set_option maxRecDepth 100000 in
set_option maxHeartbeats 2000000 in
theorem implAnswerIn (p k x : Int) (ms : List (Int × Int)) (B : Nat) (u : Value) (w : World) (hr : RdMarks w B u ms) (hB : B ≤ w.heap.size) :
    Calls Try.prog 15 #[.int .i64 p, .int .i64 k, u, .int .i64 x] w fun e w' => e = .returned (.int .i64 (ansN p k ms x)) ∧ Below w.heap.size w w' := by
  have hso := fun w h hB => implTermOk p ms B u w h hB
  have hin : decide (0 ≤ k ∧ k < p) = inOk p k := by unfold inOk; rfl
  have hpo := fun w => implPersonOk p k w
  rw [hin] at hpo
  clear hin
  cases hk : inOk p k with
  | false =>
    have Hf := Lib.hid (ansN_no (p := p) (k := k) (x := x) (ms := ms) (by rw [hk]; simp))
    rw [hk] at hpo
    have Hpo := Lib.hid hpo; clear hpo hso hk hr
    go_enter Try.func15, Try.ntmps15
    go_wp2_with fail
    refine (Hpo.out _).mono ?_
    rintro e w' ⟨rfl, rfl⟩
    go_wp2
    go_ret
    exact ⟨by rw [Hf.out]; rfl, Below.refl _ _⟩
  | true =>
  rw [hk] at hpo
  have Hpo := Lib.hid hpo; clear hpo
  cases hx : wOk p x with
  | false =>
    have Hf := Lib.hid (ansN_no (p := p) (k := k) (x := x) (ms := ms) (by rw [hx]; simp))
    have Hx := Lib.hid hx
    clear hso hk hx hr
    go_enter Try.func15, Try.ntmps15
    go_wp2_with fail
    refine (Hpo.out _).mono ?_
    rintro e w' ⟨rfl, rfl⟩
    go_wp2_with fail
    refine (implWorldOk _ _ _).mono ?_
    rintro e w' ⟨rfl, rfl⟩
    rw [Hx.out]
    go_wp2
    go_ret
    exact ⟨by rw [Hf.out]; rfl, Below.refl _ _⟩
  | true =>
  cases ht : termOk p ms with
  | false =>
    have Hf := Lib.hid (ansN_no (p := p) (k := k) (x := x) (ms := ms) (by rw [ht]; rfl))
    have Hx := Lib.hid hx
    rw [ht] at hso
    have Hso := Lib.hid hso
    have Hr := Lib.hid hr
    clear hso hk hx ht hr
    go_enter Try.func15, Try.ntmps15
    go_wp2_with fail
    refine (Hpo.out _).mono ?_
    rintro e w' ⟨rfl, rfl⟩
    go_wp2_with fail
    refine (implWorldOk _ _ _).mono ?_
    rintro e w' ⟨rfl, rfl⟩
    rw [Hx.out]
    go_wp2_with fail
    refine (Hso.out _ Hr.out hB).mono ?_
    rintro e w2 ⟨rfl, hb2⟩
    have Hb2 := Lib.hid hb2; clear hb2
    go_wp2
    go_ret
    exact ⟨by rw [Hf.out]; rfl, Hb2.out⟩
  | true =>
    obtain ⟨hp1, hp4, hx0, hx16⟩ := wOk_lt hx
    obtain ⟨X, rfl⟩ := Int.eq_ofNat_of_zero_le hx0
    obtain ⟨hk0, hkp⟩ := inOk_iff.1 hk
    obtain ⟨K, rfl⟩ := Int.eq_ofNat_of_zero_le hk0
    have Hf := Lib.hid (ans_holds ht hx hk)
    rw [Int.toNat_natCast, Int.toNat_natCast] at Hf
    have Hm := Lib.hid (fun w h hB => implHoldsIn p ms X B u w h hB)
    have hmn : min K 64 = K := by omega
    have Hx := Lib.hid hx
    rw [ht] at hso
    have Hso := Lib.hid hso
    have Hr := Lib.hid hr
    generalize holdsV p ms X = o at *
    have htb : (bits BinOp.and IntKind.i64 ((X : Int) / 2 ^ K) 1 == 1) = X.testBit K := by
      cases ht : X.testBit K with
      | true => exact and_one_yes (by omega) ht
      | false => exact and_one_no (by omega) ht
    have Htb := Lib.hid htb
    clear hso hk hx ht hr htb
    obtain ⟨ao, cap, rfl⟩ : ∃ ao cap, u = .slice ao ms.length cap := by obtain ⟨a, c, h, _⟩ := Hr.out; exact ⟨a, c, h⟩
    go_enter Try.func15, Try.ntmps15
    go_wp2_with fail
    refine (Hpo.out _).mono ?_
    rintro e w' ⟨rfl, rfl⟩
    go_wp2_with fail
    refine (implWorldOk _ _ _).mono ?_
    rintro e w' ⟨rfl, rfl⟩
    rw [Hx.out]
    go_wp2_with fail
    refine (Hso.out _ Hr.out hB).mono ?_
    rintro e w2 ⟨rfl, hb2⟩
    have Hr2 := Lib.hid (Hr.out.below (w' := w2) (fun q hq => hb2.block q (by omega)))
    have hB2 : B ≤ w2.heap.size := by have := hb2.size; omega
    have Hb2 := Lib.hid hb2; clear hb2
    go_wp2_with fail
    refine (Hm.out _ Hr2.out hB2).mono ?_
    rintro e w3 ⟨rfl, hb3⟩
    have Hb3 := Lib.hid (Hb2.out.trans (hb3.mono Hb2.out.size)); clear hb3
    rw [Htb.out]
    generalize X.testBit K = tb at *
    cases tb <;> cases o
    all_goals
      go_wp2
      go_ret
      exact ⟨by rw [Hf.out]; rfl, Hb3.out⟩
set_option maxRecDepth 100000 in
set_option maxHeartbeats 2000000 in
theorem implTrickTerm (p k : Int) (ms : List (Int × Int)) (hk : I64 k) (hlen : ms.length ≤ 2000000) (B : Nat) (u : Value) (w : World) (hr : RdMarks w B u ms) (hB : B ≤ w.heap.size) :
    Calls Try.prog 27 #[.int .i64 p, .int .i64 k, u] w (RowOk (ctermV p (k, ms)) (claimOk p (k, ms)) w) := by
  have hso := fun w h hB => implTermOk p ms B u w h hB
  cases ht : termOk p ms with
  | false =>
    have hcf : claimOk p (k, ms) = false := by
      cases h : claimOk p (k, ms) with
      | false => rfl
      | true => rw [(claim_term h).1] at ht; cases ht
    have Hv := Lib.hid (trick_no hcf)
    rw [hcf]
    rw [ht] at hso
    have Hso := Lib.hid hso; clear hso ht hcf
    go_enter Try.func27, Try.ntmps27
    go_wp2_with fail
    refine (Hso.out _ hr hB).mono ?_
    rintro e w2 ⟨rfl, hb2⟩
    have Hb2 := Lib.hid hb2; clear hb2
    go_wp2
    go_ret2
    exact ⟨_, rfl, by rw [Hv.out, mcells_nil7]; exact World.ownsRow_nil _ _ _ _, Hb2.out⟩
  | true =>
    have hms15 : ms.length ≤ 15 := (termOk_iff.1 ht).2.1
    have Hi : Hid (I64s (ctermL (k, ms))) := by
      obtain ⟨_, _, _, _, _, h, _⟩ := hr
      exact I64s_cterm7 hk h
    have Hk := Lib.hid hk
    have hto := trick_ok (k := k) ht
    have Hs2 := Lib.hid (fun B u w h hB => implTermOk p (ctermL (k, ms)) B u w h hB)
    rw [hto] at Hs2
    rw [ht] at hso
    have Hso := Lib.hid hso; clear hso ht hto hk
    have Hno := Lib.hid (fun h => trick_no (p := p) (k := k) (ms := ms) h)
    have Hyes := Lib.hid (fun h => trick_yes (p := p) (k := k) (ms := ms) h)
    have Hj := Lib.hid (fun B u w h hB => implJustIfTells k ms Hk.out (by omega) B u w h hB)
    generalize claimOk p (k, ms) = o at *
    generalize ctermL (k, ms) = L at *
    obtain ⟨ao, cap, hu⟩ : ∃ ao cap, u = .slice ao ms.length cap := by obtain ⟨a, c, h, _⟩ := hr; exact ⟨a, c, h⟩
    subst hu
    go_enter Try.func27, Try.ntmps27
    go_wp2_with fail
    refine (Hso.out _ hr hB).mono ?_
    rintro e w2 ⟨rfl, hb2⟩
    have Hr2 := Lib.hid (hr.below (w' := w2) (fun q hq => hb2.block q (by omega)))
    have hB2 : B ≤ w2.heap.size := by have := hb2.size; omega
    have Hb2 := Lib.hid hb2; clear hb2
    go_wp2_with fail
    refine (Hj.out B _ _ Hr2.out hB2).mono ?_
    rintro e w3 ⟨v, rfl, ho, hb3⟩
    obtain ⟨a3, c3, rfl⟩ := own_len ho
    have Hr3 := Lib.hid (RdMarks.of_own ho Hi.out)
    have Ho3 := Lib.hid (own_mono ho Hb2.out.size)
    have Hb3 := Lib.hid (Hb2.out.trans (hb3.mono Hb2.out.size)); clear hb3 ho
    go_wp2_with fail
    refine (Hs2.out _ _ _ Hr3.out (Nat.le_refl _)).mono ?_
    rintro e w4 ⟨rfl, hb4⟩
    have Ho4 := Lib.hid (own_below Ho3.out hb4)
    have Hb4 := Lib.hid (Hb3.out.trans (hb4.mono Hb3.out.size)); clear hb4
    cases o
    · go_wp2
      go_ret2
      exact ⟨_, rfl, by rw [Hno.out (by first | trivial | rfl), mcells_nil7]; exact World.ownsRow_nil _ _ _ _, Hb4.out⟩
    · go_wp2
      go_ret2
      exact ⟨_, rfl, by rw [Hyes.out (by first | trivial | rfl)]; exact Ho4.out, Hb4.out⟩
end Go.Proofs.Ytbcmepcjhobemaa

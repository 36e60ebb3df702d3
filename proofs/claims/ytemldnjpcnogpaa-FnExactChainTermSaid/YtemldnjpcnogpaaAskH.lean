/- Contracts of the program's answers, tricks and of who is asked alike. -/
import Derived.Test.YtemldnjpcnogpaaAskC
import Derived.Test.YtemldnjpcnogpaaAskD
import Derived.Test.YtemldnjpcnogpaaTruthI
import Derived.Test.YtemldnjpcnogpaaJust
namespace Go.Proofs.Ytemldnjpcnogpaa
open Go.RowKit Go.Joins
theorem ans_holds {p k x : Int} {ms : List (Int × Int)} (h1 : termOk p ms = true) (h2 : wOk p x = true) (h3 : inOk p k = true) : ansN p k ms x = if (x.toNat.testBit k.toNat == holdsV p ms x) then 1 else 0 := by
  rw [ansN_yes h1 h2 h3]
  unfold holdsV mayT
  dsimp only
  rw [h1, h2]
  rfl
theorem trick_no {p k : Int} {ms : List (Int × Int)} (h : claimOk p (k, ms) = false) : ctermV p (k, ms) = [] := by rw [ctermV_of, h]; rfl
theorem trick_yes {p k : Int} {ms : List (Int × Int)} (h : claimOk p (k, ms) = true) : ctermV p (k, ms) = ctermL (k, ms) := by rw [ctermV_of, h]; rfl
theorem ans_alike {p k x y : Int} {ms : List (Int × Int)} (h1 : termOk p ms = true) (h3 : inOk p k = true) (hx : wOk p x = true) (hy : wOk p y = true) : (ansN p k ms x = ansN p k ms y) ↔ mayT p (k, ms) x.toNat = mayT p (k, ms) y.toNat := by
  rw [ansN_yes h1 hx h3, ansN_yes h1 hy h3]
  cases mayT p (k, ms) x.toNat <;> cases mayT p (k, ms) y.toNat <;> simp
attribute [local irreducible] holds tabN tabV holdsV sameV followsV alwaysV matterV claimOk mayT mayV ctabV ctabN storyV storyOk storyN storyT ctermV ctermL ansN inOk chainL chainOk chainV alikeV liesN mcells
set_option maxRecDepth 100000 in
set_option maxHeartbeats 2000000 in
theorem implAnswerIn (p k x : Int) (ms : List (Int × Int)) (B : Nat) (u : Value) (w : World) (hr : RdMarks w B u ms) (hB : B ≤ w.heap.size) :
    Calls Try.prog 14 #[.int .i64 p, .int .i64 k, u, .int .i64 x] w fun e w' => e = .returned (.int .i64 (ansN p k ms x)) ∧ Below w.heap.size w w' := by
  have hso := fun w h hB => implTermOk p ms B u w h hB
  have hin : decide (0 ≤ k ∧ k < p) = inOk p k := by unfold inOk; rfl
  have hpo := fun w => implPersonOk p k w
  rw [hin] at hpo
  clear hin
  cases hk : inOk p k with
  | false =>
    have Hf := Lib.hid (ansN_no (p := p) (k := k) (x := x) (ms := ms) (by rw [hk]; simp))
    rw [hk] at hpo
    have Hpo := Lib.hid hpo; clear hpo hso hk hr
    go_enter Try.func14, Try.ntmps14
    go_wp2_with fail
    refine (Hpo.out _).mono ?_
    rintro e w' ⟨rfl, rfl⟩
    go_wp2
    go_ret
    exact ⟨by rw [Hf.out]; rfl, Below.refl _ _⟩
  | true =>
  rw [hk] at hpo
  have Hpo := Lib.hid hpo; clear hpo
  cases hx : wOk p x with
  | false =>
    have Hf := Lib.hid (ansN_no (p := p) (k := k) (x := x) (ms := ms) (by rw [hx]; simp))
    have Hx := Lib.hid hx
    clear hso hk hx hr
    go_enter Try.func14, Try.ntmps14
    go_wp2_with fail
    refine (Hpo.out _).mono ?_
    rintro e w' ⟨rfl, rfl⟩
    go_wp2_with fail
    refine (implWorldOk _ _ _).mono ?_
    rintro e w' ⟨rfl, rfl⟩
    rw [Hx.out]
    go_wp2
    go_ret
    exact ⟨by rw [Hf.out]; rfl, Below.refl _ _⟩
  | true =>
  cases ht : termOk p ms with
  | false =>
    have Hf := Lib.hid (ansN_no (p := p) (k := k) (x := x) (ms := ms) (by rw [ht]; rfl))
    have Hx := Lib.hid hx
    rw [ht] at hso
    have Hso := Lib.hid hso
    have Hr := Lib.hid hr
    clear hso hk hx ht hr
    go_enter Try.func14, Try.ntmps14
    go_wp2_with fail
    refine (Hpo.out _).mono ?_
    rintro e w' ⟨rfl, rfl⟩
    go_wp2_with fail
    refine (implWorldOk _ _ _).mono ?_
    rintro e w' ⟨rfl, rfl⟩
    rw [Hx.out]
    go_wp2_with fail
    refine (Hso.out _ Hr.out hB).mono ?_
    rintro e w2 ⟨rfl, hb2⟩
    have Hb2 := Lib.hid hb2; clear hb2
    go_wp2
    go_ret
    exact ⟨by rw [Hf.out]; rfl, Hb2.out⟩
  | true =>
    obtain ⟨hp1, hp4, hx0, hx16⟩ := wOk_lt hx
    obtain ⟨X, rfl⟩ := Int.eq_ofNat_of_zero_le hx0
    obtain ⟨hk0, hkp⟩ := inOk_iff.1 hk
    obtain ⟨K, rfl⟩ := Int.eq_ofNat_of_zero_le hk0
    have Hf := Lib.hid (ans_holds ht hx hk)
    rw [Int.toNat_natCast, Int.toNat_natCast] at Hf
    have Hm := Lib.hid (fun w h hB => implHoldsIn p ms X B u w h hB)
    have hmn : min K 64 = K := by omega
    have Hx := Lib.hid hx
    rw [ht] at hso
    have Hso := Lib.hid hso
    have Hr := Lib.hid hr
    generalize holdsV p ms X = o at *
    have htb : (bits BinOp.and IntKind.i64 ((X : Int) / 2 ^ K) 1 == 1) = X.testBit K := by
      cases ht : X.testBit K with
      | true => exact and_one_yes (by omega) ht
      | false => exact and_one_no (by omega) ht
    have Htb := Lib.hid htb
    clear hso hk hx ht hr htb
    obtain ⟨ao, cap, rfl⟩ : ∃ ao cap, u = .slice ao ms.length cap := by obtain ⟨a, c, h, _⟩ := Hr.out; exact ⟨a, c, h⟩
    go_enter Try.func14, Try.ntmps14
    go_wp2_with fail
    refine (Hpo.out _).mono ?_
    rintro e w' ⟨rfl, rfl⟩
    go_wp2_with fail
    refine (implWorldOk _ _ _).mono ?_
    rintro e w' ⟨rfl, rfl⟩
    rw [Hx.out]
    go_wp2_with fail
    refine (Hso.out _ Hr.out hB).mono ?_
    rintro e w2 ⟨rfl, hb2⟩
    have Hr2 := Lib.hid (Hr.out.below (w' := w2) (fun q hq => hb2.block q (by omega)))
    have hB2 : B ≤ w2.heap.size := by have := hb2.size; omega
    have Hb2 := Lib.hid hb2; clear hb2
    go_wp2_with fail
    refine (Hm.out _ Hr2.out hB2).mono ?_
    rintro e w3 ⟨rfl, hb3⟩
    have Hb3 := Lib.hid (Hb2.out.trans (hb3.mono Hb2.out.size)); clear hb3
    rw [Htb.out]
    generalize X.testBit K = tb at *
    cases tb <;> cases o
    all_goals
      go_wp2
      go_ret
      exact ⟨by rw [Hf.out]; rfl, Hb3.out⟩
set_option maxRecDepth 100000 in
set_option maxHeartbeats 2000000 in
theorem implTrickTerm (p k : Int) (ms : List (Int × Int)) (hk : I64 k) (hlen : ms.length ≤ 2000000) (B : Nat) (u : Value) (w : World) (hr : RdMarks w B u ms) (hB : B ≤ w.heap.size) :
    Calls Try.prog 21 #[.int .i64 p, .int .i64 k, u] w (RowOk (ctermV p (k, ms)) (claimOk p (k, ms)) w) := by
  have hso := fun w h hB => implTermOk p ms B u w h hB
  cases ht : termOk p ms with
  | false =>
    have hcf : claimOk p (k, ms) = false := by
      cases h : claimOk p (k, ms) with
      | false => rfl
      | true => rw [(claim_term h).1] at ht; cases ht
    have Hv := Lib.hid (trick_no hcf)
    rw [hcf]
    rw [ht] at hso
    have Hso := Lib.hid hso; clear hso ht hcf
    go_enter Try.func21, Try.ntmps21
    go_wp2_with fail
    refine (Hso.out _ hr hB).mono ?_
    rintro e w2 ⟨rfl, hb2⟩
    have Hb2 := Lib.hid hb2; clear hb2
    go_wp2
    go_ret2
    exact ⟨_, rfl, by rw [Hv.out, mcells_nil7]; exact World.ownsRow_nil _ _ _ _, Hb2.out⟩
  | true =>
    have hms15 : ms.length ≤ 15 := (termOk_iff.1 ht).2.1
    have Hi : Hid (I64s (ctermL (k, ms))) := by
      obtain ⟨_, _, _, _, _, h, _⟩ := hr
      exact I64s_cterm7 hk h
    have Hk := Lib.hid hk
    have hto := trick_ok (k := k) ht
    have Hs2 := Lib.hid (fun B u w h hB => implTermOk p (ctermL (k, ms)) B u w h hB)
    rw [hto] at Hs2
    rw [ht] at hso
    have Hso := Lib.hid hso; clear hso ht hto hk
    have Hno := Lib.hid (fun h => trick_no (p := p) (k := k) (ms := ms) h)
    have Hyes := Lib.hid (fun h => trick_yes (p := p) (k := k) (ms := ms) h)
    have Hj := Lib.hid (fun B u w h hB => implJustIfTells k ms Hk.out (by omega) B u w h hB)
    generalize claimOk p (k, ms) = o at *
    generalize ctermL (k, ms) = L at *
    obtain ⟨ao, cap, hu⟩ : ∃ ao cap, u = .slice ao ms.length cap := by obtain ⟨a, c, h, _⟩ := hr; exact ⟨a, c, h⟩
    subst hu
    go_enter Try.func21, Try.ntmps21
    go_wp2_with fail
    refine (Hso.out _ hr hB).mono ?_
    rintro e w2 ⟨rfl, hb2⟩
    have Hr2 := Lib.hid (hr.below (w' := w2) (fun q hq => hb2.block q (by omega)))
    have hB2 : B ≤ w2.heap.size := by have := hb2.size; omega
    have Hb2 := Lib.hid hb2; clear hb2
    go_wp2_with fail
    refine (Hj.out B _ _ Hr2.out hB2).mono ?_
    rintro e w3 ⟨v, rfl, ho, hb3⟩
    obtain ⟨a3, c3, rfl⟩ := own_len ho
    have Hr3 := Lib.hid (RdMarks.of_own ho Hi.out)
    have Ho3 := Lib.hid (own_mono ho Hb2.out.size)
    have Hb3 := Lib.hid (Hb2.out.trans (hb3.mono Hb2.out.size)); clear hb3 ho
    go_wp2_with fail
    refine (Hs2.out _ _ _ Hr3.out (Nat.le_refl _)).mono ?_
    rintro e w4 ⟨rfl, hb4⟩
    have Ho4 := Lib.hid (own_below Ho3.out hb4)
    have Hb4 := Lib.hid (Hb3.out.trans (hb4.mono Hb3.out.size)); clear hb4
    cases o
    · go_wp2
      go_ret2
      exact ⟨_, rfl, by rw [Hno.out (by first | trivial | rfl), mcells_nil7]; exact World.ownsRow_nil _ _ _ _, Hb4.out⟩
    · go_wp2
      go_ret2
      exact ⟨_, rfl, by rw [Hyes.out (by first | trivial | rfl)]; exact Ho4.out, Hb4.out⟩
set_option maxRecDepth 100000 in
set_option maxHeartbeats 4000000 in
theorem implAlikeOk (p k : Int) (ms : List (Int × Int)) (B : Nat) (u : Value) (w : World) (hr : RdMarks w B u ms) (hB : B ≤ w.heap.size) :
    Calls Try.prog 29 #[.int .i64 p, .int .i64 k, u] w fun e w' => e = .returned (.bool (alikeV p k ms)) ∧ Below w.heap.size w w' := by
  have hso := fun w h hB => implTermOk p ms B u w h hB
  have hin : decide (0 ≤ k ∧ k < p) = inOk p k := by unfold inOk; rfl
  have hpo := fun w => implPersonOk p k w
  rw [hin] at hpo
  clear hin
  cases hk : inOk p k with
  | false =>
    have Hf := Lib.hid (alike_no (p := p) (k := k) (ms := ms) (by rw [hk]; simp))
    rw [hk] at hpo
    have Hpo := Lib.hid hpo; clear hpo hso hk hr
    go_enter Try.func29, Try.ntmps29
    go_wp2_with fail
    refine (Hpo.out _).mono ?_
    rintro e w' ⟨rfl, rfl⟩
    go_wp2
    go_ret
    exact ⟨by rw [Hf.out]; rfl, Below.refl _ _⟩
  | true =>
  rw [hk] at hpo
  have Hpo := Lib.hid hpo; clear hpo
  cases ht : termOk p ms with
  | false =>
    have Hf := Lib.hid (alike_no (p := p) (k := k) (ms := ms) (by rw [ht]; rfl))
    rw [ht] at hso
    have Hso := Lib.hid hso
    have Hr := Lib.hid hr
    clear hso hk ht hr
    go_enter Try.func29, Try.ntmps29
    go_wp2_with fail
    refine (Hpo.out _).mono ?_
    rintro e w' ⟨rfl, rfl⟩
    go_wp2_with fail
    refine (Hso.out _ Hr.out hB).mono ?_
    rintro e w2 ⟨rfl, hb2⟩
    have Hb2 := Lib.hid hb2; clear hb2
    go_wp2
    go_ret
    exact ⟨by rw [Hf.out]; rfl, Hb2.out⟩
  | true =>
    obtain ⟨hp1, hp4⟩ := p_of ht
    obtain ⟨h0, hkp⟩ := inOk_iff.1 hk
    obtain ⟨K, rfl⟩ := Int.eq_ofNat_of_zero_le h0
    obtain ⟨P, rfl⟩ := Int.eq_ofNat_of_zero_le (show 0 ≤ p by omega)
    have Hy := Lib.hid (alike_yes ht hk)
    rw [Int.toNat_natCast, Int.toNat_natCast] at Hy
    obtain ⟨N, hN⟩ : ∃ N, N = 2 ^ P := ⟨_, rfl⟩
    rw [← hN] at Hy
    have hN16 : N ≤ 16 := by rw [hN]; exact two16 (by omega)
    have Hcnt := Lib.hid (fun w => implWorldCount (P : Int) N (by unfold Hid; rw [hN]; simp) hp1 hp4 w)
    have Hxs : Hid (∀ W, W < N → W ^^^ 1 <<< K < N) := fun W hW => by rw [hN] at hW ⊢; exact xor_small hW (by omega)
    have Hw : Hid (∀ W : Nat, W < N → wOk (P : Int) (W : Int) = true) := fun W hW => by
      rw [wOk_iff]
      refine ⟨hp1, hp4, by omega, ?_⟩
      rw [Int.toNat_natCast]
      rw [hN] at hW
      exact_mod_cast hW
    obtain ⟨ao, cap, rfl⟩ : ∃ ao cap, u = .slice ao ms.length cap := by obtain ⟨a, c, h, _⟩ := hr; exact ⟨a, c, h⟩
    have Hm := Lib.hid (fun (X : Nat) w h hB => implAnswerIn (P : Int) (K : Int) X ms B (.slice ao ms.length cap) w h hB)
    have Hal := Lib.hid (fun (X Y : Nat) (hX : X < N) (hY : Y < N) => by
      have := ans_alike ht hk (Hw.out X hX) (Hw.out Y hY)
      rw [Int.toNat_natCast, Int.toNat_natCast] at this
      exact this)
    have hshk : wrap64 (2 ^ K) = ((1 <<< K : Nat) : Int) := by
      have h : K = 0 ∨ K = 1 ∨ K = 2 ∨ K = 3 := by omega
      rcases h with rfl | rfl | rfl | rfl <;> decide +kernel
    have hshk2 : IntKind.i64.wrap (2 ^ K) = ((1 <<< K : Nat) : Int) := by
      have h : K = 0 ∨ K = 1 ∨ K = 2 ∨ K = 3 := by omega
      rcases h with rfl | rfl | rfl | rfl <;> decide +kernel
    have hmnK : min K 64 = K := by omega
    have hK8 : 1 <<< K ≤ 8 := by
      have h : K = 0 ∨ K = 1 ∨ K = 2 ∨ K = 3 := by omega
      rcases h with rfl | rfl | rfl | rfl <;> decide
    have Hr := Lib.hid hr
    rw [ht] at hso
    have Hso := Lib.hid hso; clear hso ht hk hN hr
    generalize 1 <<< K = Q at *
    obtain ⟨M, hM⟩ : ∃ M : Nat → Bool, M = mayT (P : Int) ((K : Int), ms) := ⟨_, rfl⟩
    rw [← hM] at Hal Hy
    clear hM
    obtain ⟨G, hG⟩ : ∃ G : Nat → Int, G = fun X : Nat => ansN (P : Int) (K : Int) ms (X : Int) := ⟨_, rfl⟩
    have hG' : ∀ X : Nat, ansN (P : Int) (K : Int) ms (X : Int) = G X := fun X => by rw [hG]
    simp only [hG'] at Hal Hm
    clear hG hG'
    obtain ⟨wo, rfl⟩ : ∃ wo : World, wo = w := ⟨_, rfl⟩
    go_enter Try.func29, Try.ntmps29
    go_wp2_with fail
    refine (Hpo.out _).mono ?_
    rintro e w' ⟨rfl, rfl⟩
    go_wp2_with fail
    refine (Hso.out _ Hr.out hB).mono ?_
    rintro e w2 ⟨rfl, hb2⟩
    have Hb2 := Lib.hid hb2; clear hb2
    go_wp2_with fail
    refine (Hcnt.out _).mono ?_
    rintro e w' ⟨rfl, rfl⟩
    go_wp2
    go_loopw [7, 8, 21] (fun _ _ x wr => ∃ W : Nat, W ≤ N ∧ x = .int .i64 W ∧ Hid (∀ X, X < W → M X = M (X ^^^ Q)) ∧ Below wo.heap.size wo wr) (fun _ _ x _ => N - (intOf x).toNat)
    case atStart => exact ⟨0, Nat.zero_le _, rfl, fun X hX => absurd hX (Nat.not_lt_zero _), Hb2.out⟩
    case round =>
      obtain ⟨W, hW, rfl, hall, hbr⟩ := hrel
      by_cases hlt : W < N
      · have hxw := Hxs.out W hlt
        have hbx := bits_xor_nat W Q (by omega) (by omega)
        have Hr1 := Lib.hid (Hr.out.below (w' := wr) (fun q hq => hbr.block q (by omega)))
        have hB1 : B ≤ wr.heap.size := by have := hbr.size; omega
        have hsr := hbr.size
        have Hbr := Lib.hid hbr
        clear hbr
        generalize hX : W ^^^ Q = X at *
        have HX := Lib.hid hX
        clear hX
        go_wp2_with fail
        refine (Hm.out W _ Hr1.out hB1).mono ?_
        rintro e w3 ⟨rfl, hb3⟩
        have Hr3 := Lib.hid (Hr1.out.below (w' := w3) (fun q hq => hb3.block q (by omega)))
        have hB3 : B ≤ w3.heap.size := by have := hb3.size; omega
        have Hb3 := Lib.hid (Hbr.out.trans (hb3.mono hsr)); clear hb3
        go_wp2_with fail
        refine (Hm.out X _ Hr3.out hB3).mono ?_
        rintro e w4 ⟨rfl, hb4⟩
        have Hb4 := Lib.hid (Hb3.out.trans (hb4.mono Hb3.out.size)); clear hb4
        have Hall' : Hid (G W = G X → ∀ Y, Y < W + 1 → M Y = M (Y ^^^ Q)) := fun he Y hY => by
          by_cases hYW : Y = W
          · subst hYW; rw [HX.out]; exact (Hal.out _ X hlt hxw).1 he
          · exact hall.out Y (by omega)
        have Hf : Hid (G W ≠ G X → alikeV (P : Int) (K : Int) ms = false) := fun he => by
          cases ha : alikeV (P : Int) (K : Int) ms with
          | false => rfl
          | true => exact absurd ((Hal.out W X hlt hxw).2 (by rw [← HX.out]; exact Hy.out.1 ha W hlt)) he
        by_cases hg : G W = G X
        · have hall1 := Hall'.out hg
          generalize G X = gx at *
          rw [hg]
          clear hg Hall' hshk hshk2
          go_wp2
          go_roundw
          case rel => exact ⟨W + 1, by omega, by go_num, hall1, Hb4.out⟩
          case measure => simp [intOf]; omega
        · have hf := Lib.hid (Hf.out hg)
          have hg' : (G W == G X) = false := by rw [beq_eq_false_iff_ne]; exact hg
          generalize G W = gw at *
          generalize G X = gx at *
          go_wp2
          go_ret
          exact ⟨by rw [hf.out]; rfl, Hb4.out⟩
      · obtain rfl : W = N := Nat.le_antisymm hW (Nat.le_of_not_lt hlt)
        have Hf : Hid (alikeV (P : Int) (K : Int) ms = true) := Hy.out.2 hall.out
        have Hbr := Lib.hid hbr
        clear hbr
        go_wp2
        go_ret
        exact ⟨by rw [Hf.out]; rfl, Hbr.out⟩
end Go.Proofs.Ytemldnjpcnogpaa

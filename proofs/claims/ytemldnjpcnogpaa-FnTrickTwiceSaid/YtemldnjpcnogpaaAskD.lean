/- Contract of the reference's AlikeOk. -/
import Derived.Test.YtemldnjpcnogpaaAsk
namespace Go.Proofs.Ytemldnjpcnogpaa
open Go.RowKit Go.Joins
attribute [local irreducible] holds tabN tabV holdsV sameV followsV alwaysV matterV claimOk mayT mayV ctabV ctabN storyV storyOk storyN storyT ctermV ctermL ansN inOk chainL chainOk chainV alikeV liesN mcells
theorem alike_no {p k : Int} {ms : List (Int × Int)} (h : (termOk p ms && inOk p k) = false) : alikeV p k ms = false := by
  unfold alikeV
  cases h1 : termOk p ms with
  | false => rfl
  | true =>
    rw [h1] at h
    rw [show inOk p k = false from h]; rfl
theorem alike_yes {p k : Int} {ms : List (Int × Int)} (h1 : termOk p ms = true) (h2 : inOk p k = true) : alikeV p k ms = true ↔ ∀ W, W < 2 ^ p.toNat → mayT p (k, ms) W = mayT p (k, ms) (W ^^^ 1 <<< k.toNat) := by
  unfold alikeV
  rw [h1, h2]
  simp
theorem xor_small {W K P : Nat} (hW : W < 2 ^ P) (hK : K < P) : W ^^^ 1 <<< K < 2 ^ P := by
  rw [Nat.one_shiftLeft]
  exact Nat.xor_lt_two_pow hW (Nat.pow_lt_pow_right (by decide) hK)
set_option maxRecDepth 100000 in
set_option maxHeartbeats 4000000 in
theorem specAlikeOk (p k : Int) (ms : List (Int × Int)) (B : Nat) (u : Value) (w : World) (hr : RdMarks w B u ms) (hB : B ≤ w.heap.size) :
    Calls Try.prog 30 #[.int .i64 p, .int .i64 k, u] w fun e w' => e = .returned (.bool (alikeV p k ms)) ∧ Below w.heap.size w w' := by
  have hso := fun w h => specTermOk p ms B u w h
  cases ht : termOk p ms with
  | false =>
    have Hf := Lib.hid (alike_no (p := p) (k := k) (ms := ms) (by rw [ht]; rfl))
    rw [ht] at hso
    have Hso := Lib.hid hso; clear hso ht
    go_enter Try.func30, Try.ntmps30
    go_wp2_with fail
    refine (Hso.out _ hr).mono ?_
    rintro e w' ⟨rfl, rfl⟩
    go_wp2
    go_ret
    exact ⟨by rw [Hf.out]; rfl, Below.refl _ _⟩
  | true =>
  obtain ⟨hp1, hp4⟩ := p_of ht
  have hwp : IntKind.i64.wrap (p - 1) = p - 1 := IntWalk.i64_in _ (by omega)
  have Hin := Lib.hid (inOk_decide p k)
  cases hk : inOk p k with
  | false =>
    have Hf := Lib.hid (alike_no (p := p) (k := k) (ms := ms) (by rw [ht, hk]; rfl))
    rw [hk] at Hin
    rw [ht] at hso
    have Hso := Lib.hid hso; clear hso ht hk
    go_enter Try.func30, Try.ntmps30
    go_wp2_with fail
    refine (Hso.out _ hr).mono ?_
    rintro e w' ⟨rfl, rfl⟩
    go_wp2_with fail
    refine (specL1In _ _ _ false Hin _).mono ?_
    rintro e w' ⟨rfl, rfl⟩
    go_wp2
    go_ret
    exact ⟨by rw [Hf.out]; rfl, Below.refl _ _⟩
  | true =>
    obtain ⟨h0, hkp⟩ := inOk_iff.1 hk
    obtain ⟨K, rfl⟩ := Int.eq_ofNat_of_zero_le h0
    obtain ⟨P, rfl⟩ := Int.eq_ofNat_of_zero_le (show 0 ≤ p by omega)
    have Hy := Lib.hid (alike_yes ht hk)
    rw [Int.toNat_natCast, Int.toNat_natCast] at Hy
    obtain ⟨N, hN⟩ : ∃ N, N = 2 ^ P := ⟨_, rfl⟩
    rw [← hN] at Hy
    have hN16 : N ≤ 16 := by rw [hN]; exact two16 (by omega)
    have Hxs : Hid (∀ W, W < N → W ^^^ 1 <<< K < N) := fun W hW => by rw [hN] at hW ⊢; exact xor_small hW (by omega)
    obtain ⟨ao, cap, rfl⟩ : ∃ ao cap, u = .slice ao ms.length cap := by obtain ⟨a, c, h, _⟩ := hr; exact ⟨a, c, h⟩
    have Hm := Lib.hid (fun X hX w h => specMayA ht hk X hX B (.slice ao ms.length cap) w h)
    have hsh : wrap64 (2 ^ P) = (N : Int) := by
      have h : P = 1 ∨ P = 2 ∨ P = 3 ∨ P = 4 := by omega
      rw [hN]
      rcases h with rfl | rfl | rfl | rfl <;> decide +kernel
    have hshk : wrap64 (2 ^ K) = ((1 <<< K : Nat) : Int) := by
      have h : K = 0 ∨ K = 1 ∨ K = 2 ∨ K = 3 := by omega
      rcases h with rfl | rfl | rfl | rfl <;> decide +kernel
    have hsh2 : IntKind.i64.wrap (2 ^ P) = (N : Int) := by
      have h : P = 1 ∨ P = 2 ∨ P = 3 ∨ P = 4 := by omega
      rw [hN]
      rcases h with rfl | rfl | rfl | rfl <;> decide +kernel
    have hshk2 : IntKind.i64.wrap (2 ^ K) = ((1 <<< K : Nat) : Int) := by
      have h : K = 0 ∨ K = 1 ∨ K = 2 ∨ K = 3 := by omega
      rcases h with rfl | rfl | rfl | rfl <;> decide +kernel
    have hmnP : min P 64 = P := by omega
    have hmnK : min K 64 = K := by omega
    have hK8 : 1 <<< K ≤ 8 := by
      have h : K = 0 ∨ K = 1 ∨ K = 2 ∨ K = 3 := by omega
      rcases h with rfl | rfl | rfl | rfl <;> decide
    have Hr := Lib.hid hr
    rw [hk] at Hin
    rw [ht] at hso
    have Hso := Lib.hid hso; clear hso ht hk hN hr
    generalize 1 <<< K = Q at *
    obtain ⟨M, hM⟩ : ∃ M : Nat → Bool, M = mayT (P : Int) ((K : Int), ms) := ⟨_, rfl⟩
    rw [← hM] at Hm Hy
    clear hM
    obtain ⟨wo, rfl⟩ : ∃ wo : World, wo = w := ⟨_, rfl⟩
    go_enter Try.func30, Try.ntmps30
    go_wp2_with fail
    refine (Hso.out _ Hr.out).mono ?_
    rintro e w' ⟨rfl, rfl⟩
    go_wp2_with fail
    refine (specL1In _ _ _ true Hin _).mono ?_
    rintro e w' ⟨rfl, rfl⟩
    go_wp2
    go_loopw [7, 8] (fun x _ wr => ∃ W : Nat, W ≤ N ∧ x = .int .i64 W ∧ Hid (∀ X, X < W → M X = M (X ^^^ Q)) ∧ Below wo.heap.size wo wr) (fun x _ _ => N - (intOf x).toNat)
    case atStart => exact ⟨0, Nat.zero_le _, rfl, fun X hX => absurd hX (Nat.not_lt_zero _), Below.refl _ _⟩
    case round =>
      obtain ⟨W, hW, rfl, hall, hbr⟩ := hrel
      by_cases hlt : W < N
      · have hxw := Hxs.out W hlt
        have hbx := bits_xor_nat W Q (by omega) (by omega)
        have Hr1 := Lib.hid (Hr.out.below (w' := wr) (fun q hq => hbr.block q (by omega)))
        have hsr := hbr.size
        have Hbr := Lib.hid hbr
        clear hbr
        go_upto_region 7 with fail
        obtain ⟨w1, hw1, hx1, hb1, hs1⟩ := Box.new wr (.int .i64 K) (.slice ao ms.length cap) TC
        have Hr2 := Lib.hid (Hr1.out.below (w' := w1) (fun q hq => hb1.block q (by omega)))
        have HX1 := Lib.hid hx1
        obtain ⟨x1, x2, x3, x4, x5⟩ := hx1
        have Hb1 := Lib.hid (Hbr.out.trans (hb1.mono hsr))
        have hBw1 : B ≤ w1.heap.size := by omega
        rw [← hw1]
        clear hw1 hb1
        generalize hX : W ^^^ Q = X at *
        have HX := Lib.hid hX
        clear hX
        go_region_held3 (fun w' => w'.cell? ⟨wr.heap.size, 0, none⟩ = some (.int .i64 K) ∧ w'.cell? ⟨wr.heap.size, 1, none⟩ = some (.slice ao ms.length cap))
          (first | (refine ⟨?_, ?_⟩ <;> first | go_keep | assumption) | assumption)
          (first
            | (go_at_call 49
               (with_reducible refine (Hm.out W (by omega) _ ?_ ?_).mono ?_)
               · exact Hr2.out
               · exact hBw1
               rintro e w2 ⟨rfl, hb2'⟩
               go_must (have hb2 : Below w1.heap.size w1 w2 := by first | exact hb2' | exact below_undrewS hb2' | exact below_undrewN hb2'
                        clear hb2'
                        have q1 := (hb2.cell (p := ⟨wr.heap.size, 0, none⟩) x5).trans x1
                        have q2 := (hb2.cell (p := ⟨wr.heap.size, 1, none⟩) x5).trans x2
                        have hs2 := hb2.size
                        have Hr3 := Lib.hid (Hr2.out.below (w' := w2) (fun q hq => hb2.block q (by omega)))
                        have Hb2 := Lib.hid (Hb1.out.trans (hb2.mono (by omega)))
                        clear hb2))
            | (go_at_call 49
               (with_reducible refine (Hm.out X (by omega) _ ?_ ?_).mono ?_)
               · exact Hr3.out
               · omega
               rintro e w3 ⟨rfl, hb3'⟩
               go_must (have hb3 : Below w2.heap.size w2 w3 := by first | exact hb3' | exact below_undrewS hb3' | exact below_undrewN hb3'
                        clear hb3'
                        have r1 := (hb3.cell (p := ⟨wr.heap.size, 0, none⟩) (show wr.heap.size < w2.heap.size by omega)).trans q1
                        have r2 := (hb3.cell (p := ⟨wr.heap.size, 1, none⟩) (show wr.heap.size < w2.heap.size by omega)).trans q2
                        have Hb3 := Lib.hid (Hb2.out.trans (hb3.mono (by omega)))
                        clear hb3))
            | fail)
        have Hall' : Hid (M W = M X → ∀ Y, Y < W + 1 → M Y = M (Y ^^^ Q)) := fun he Y hY => by
          by_cases hYW : Y = W
          · subst hYW; rw [HX.out]; exact he
          · exact hall.out Y (by omega)
        have Hf : Hid (M W ≠ M X → alikeV (P : Int) (K : Int) ms = false) := fun he => by
          cases ha : alikeV (P : Int) (K : Int) ms with
          | false => rfl
          | true => exact absurd (by rw [← HX.out]; exact Hy.out.1 ha W hlt) he
        generalize M W = mw at *
        generalize M X = mx at *
        cases mw <;> cases mx
        · go_wp2
          go_roundw
          case rel => exact ⟨W + 1, by omega, by go_num, Hall'.out rfl, by first | exact Hb3.out | exact below_drew1 Hb3.out | exact below_drewN Hb3.out _⟩
          case measure => simp [intOf]; omega
        · go_wp2
          go_ret
          exact ⟨by rw [Hf.out (by simp)]; rfl, by first | exact Hb3.out | exact below_drew1 Hb3.out | exact below_drewN Hb3.out _⟩
        · go_wp2
          go_ret
          exact ⟨by rw [Hf.out (by simp)]; rfl, by first | exact Hb3.out | exact below_drew1 Hb3.out | exact below_drewN Hb3.out _⟩
        · go_wp2
          go_roundw
          case rel => exact ⟨W + 1, by omega, by go_num, Hall'.out rfl, by first | exact Hb3.out | exact below_drew1 Hb3.out | exact below_drewN Hb3.out _⟩
          case measure => simp [intOf]; omega
      · obtain rfl : W = N := by omega
        have Hf : Hid (alikeV (P : Int) (K : Int) ms = true) := Hy.out.2 hall.out
        have Hbr := Lib.hid hbr
        clear hbr
        go_wp2
        go_ret
        exact ⟨by rw [Hf.out]; rfl, Hbr.out⟩
end Go.Proofs.Ytemldnjpcnogpaa

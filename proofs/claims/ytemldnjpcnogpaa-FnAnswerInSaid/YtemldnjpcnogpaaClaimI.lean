/- Contracts of the program's claims and stories. -/
import Derived.Test.YtemldnjpcnogpaaClaimT
import Derived.Test.YtemldnjpcnogpaaTruthI
import Derived.Test.YtemldnjpcnogpaaJust
namespace Go.Proofs.Ytemldnjpcnogpaa
open Go.RowKit Go.Joins
/-- what a call hands back that returns a claim in memory of its own, and whether it is one -/
def ClaimOut (c : Cl) (o : Bool) (w : World) (e : Ending) (w' : World) : Prop := ∃ v, e = .returned (.tuple #[.agg #[.int .i64 c.1, v], .bool o]) ∧ w'.ownsRow w.heap.size TM 2 v c.2.length (mcells c.2) ∧ Below w.heap.size w w'
attribute [local irreducible] holds tabN tabV holdsV sameV followsV alwaysV matterV claimOk mayT mayV ctabV ctabN storyV storyOk storyN storyT ctermV ctermL denyV denyOk allV
theorem claimOk_len {p k : Int} {ms : List (Int × Int)} (h : ¬ ms.length ≤ 13) : claimOk p (k, ms) = false := by
  cases hc : claimOk p (k, ms) with
  | false => rfl
  | true => exact absurd (claimOk_iff.1 hc).2.2.2 h
theorem claimOk_term {p k : Int} {ms : List (Int × Int)} (h0 : 0 ≤ k) (h1 : k < p) (h : ms.length ≤ 13) : claimOk p (k, ms) = termOk p ms := by
  rw [Bool.eq_iff_iff, claimOk_iff]
  exact ⟨fun h => h.2.2.1, fun ht => ⟨h0, h1, ht, h⟩⟩
theorem below_and {B : Nat} {a w : World} {e : Ending} {b : Value} (h : e = .returned b ∧ Below B a w) : e = .returned b := h.1
set_option maxHeartbeats 1000000 in
theorem implClaimOk (p k : Int) (ms : List (Int × Int)) (B : Nat) (u : Value) (w : World) (hr : RdMarks w B u ms) (hB : B ≤ w.heap.size) :
    Calls Try.prog 51 #[.int .i64 p, .agg #[.int .i64 k, u]] w fun e w' => e = .returned (.bool (claimOk p (k, ms))) ∧ Below w.heap.size w w' := by
  have hbw : ∀ o, Below w.heap.size w (w.alloc o) := fun o => (Below.refl _ _).alloc (Nat.le_refl _) o
  by_cases h01 : 0 ≤ k ∧ k < p
  case neg =>
    have Hf := Lib.hid (claimOk_no_who (p := p) (c := (k, ms)) h01)
    have Hd : Hid (decide (0 ≤ k ∧ k < p) = false) := decide_eq_false h01
    clear hr h01
    go_enter Try.func51, Try.ntmps51
    go_wp2_with fail
    refine (implPersonOk _ _ _).mono ?_
    rintro e w' ⟨rfl, rfl⟩
    rw [Hd.out]
    go_wp2
    go_ret
    exact ⟨by rw [Hf.out]; rfl, hbw _⟩
  have Hd : Hid (decide (0 ≤ k ∧ k < p) = true) := decide_eq_true h01
  obtain ⟨h0, h1⟩ := h01
  have Hr := Lib.hid (fun o => hr.below (w' := w.alloc o) (fun q hq => (hbw o).block q (by omega)))
  obtain ⟨ao, cap, rfl, hl, hm, _, _⟩ := hr
  unfold maxLen at hm
  by_cases hn : ms.length ≤ 13
  case neg =>
    have Hf := Lib.hid (claimOk_len (p := p) (k := k) hn)
    clear Hr h0 h1
    go_enter Try.func51, Try.ntmps51
    go_wp2_with fail
    refine (implPersonOk _ _ _).mono ?_
    rintro e w' ⟨rfl, rfl⟩
    rw [Hd.out]
    go_wp2
    go_ret
    exact ⟨by rw [Hf.out]; rfl, hbw _⟩
  have Hf := Lib.hid (claimOk_term (p := p) h0 h1 hn)
  clear h0 h1
  go_enter Try.func51, Try.ntmps51
  go_wp2_with fail
  refine (implPersonOk _ _ _).mono ?_
  rintro e w' ⟨rfl, rfl⟩
  rw [Hd.out]
  go_wp2_with fail
  refine (implTermOk _ _ B _ _ (Hr.out _) (by simp; omega)).mono ?_
  rintro e w1 ⟨rfl, hb1⟩
  have Hb1 := Lib.hid hb1; clear hb1
  go_wp2
  go_ret
  exact ⟨by rw [Hf.out]; rfl, (hbw _).trans (Hb1.out.mono (by simp))⟩
theorem may_holds {p k x : Int} {ms : List (Int × Int)} (h : claimOk p (k, ms) = true) (hx : wOk p x = true) : ∃ K X : Nat, k = K ∧ x = X ∧ K < 4 ∧ X < 16 ∧ mayV p (k, ms) x = (X.testBit K == holdsV p ms x) := by
  obtain ⟨K, t, rfl, hK, _, _, ht, rfl, hl, hok, hm⟩ := claim_parts h
  obtain ⟨_, _, hx0, hx16⟩ := wOk_lt hx
  obtain ⟨X, rfl⟩ := Int.eq_ofNat_of_zero_le hx0
  refine ⟨K, X, rfl, rfl, hK, by omega, ?_⟩
  rw [mayV_yes h hx, Int.toNat_natCast, hm X, holdsV_at hok ht hx, Int.toNat_natCast]
set_option maxHeartbeats 1000000 in
theorem implMaySay (p k x : Int) (ms : List (Int × Int)) (B : Nat) (u : Value) (w : World) (hr : RdMarks w B u ms) (hB : B ≤ w.heap.size) :
    Calls Try.prog 19 #[.int .i64 p, .agg #[.int .i64 k, u], .int .i64 x] w fun e w' => e = .returned (.bool (mayV p (k, ms) x)) ∧ Below w.heap.size w w' := by
  have hc := fun w h hB => implClaimOk p k ms B u w h hB
  cases hok : claimOk p (k, ms) with
  | false =>
    have Hf := Lib.hid (mayV_no (x := x) hok)
    rw [hok] at hc
    have Hc := Lib.hid hc; clear hc hok
    go_enter Try.func19, Try.ntmps19
    go_upto_region 1 with fail
    obtain ⟨w1, hw1, n1, n2, hbw, hsz⟩ := new_two w (.int .i64 k) u TC
    rw [← hw1]
    have Hr1 := Lib.hid (hr.below (w' := w1) (fun q hq => hbw.block q (by omega)))
    have hB1 : B ≤ w1.heap.size := by omega
    have Hbw := Lib.hid hbw; clear hbw hw1 hr
    go_wp2_with fail
    refine (Hc.out _ Hr1.out hB1).mono ?_
    rintro e w2 ⟨rfl, hb2⟩
    have Hb2 := Lib.hid (Hbw.out.trans (hb2.mono Hbw.out.size)); clear hb2
    go_wp2
    go_ret
    exact ⟨by rw [Hf.out]; rfl, Hb2.out⟩
  | true =>
    rw [hok] at hc
    have Hc := Lib.hid hc; clear hc
    cases hx : wOk p x with
    | false =>
      have Hf := Lib.hid (mayV_no2 (c := (k, ms)) hx)
      have Hx := Lib.hid hx; clear hok hx
      go_enter Try.func19, Try.ntmps19
      go_upto_region 1 with fail
      obtain ⟨w1, hw1, n1, n2, hbw, hsz⟩ := new_two w (.int .i64 k) u TC
      rw [← hw1]
      have Hr1 := Lib.hid (hr.below (w' := w1) (fun q hq => hbw.block q (by omega)))
      have hB1 : B ≤ w1.heap.size := by omega
      have Hbw := Lib.hid hbw; clear hbw hw1 hr
      go_wp2_with fail
      refine (Hc.out _ Hr1.out hB1).mono ?_
      rintro e w2 ⟨rfl, hb2⟩
      have Hb2 := Lib.hid (Hbw.out.trans (hb2.mono Hbw.out.size)); clear hb2
      go_wp2_with fail
      refine (implWorldOk _ _ _).mono ?_
      rintro e w' ⟨rfl, rfl⟩
      rw [Hx.out]
      go_wp2
      go_ret
      exact ⟨by rw [Hf.out]; rfl, Hb2.out⟩
    | true =>
      obtain ⟨K, X, rfl, rfl, hK, hX, hf⟩ := may_holds hok hx
      have Hf := Lib.hid hf
      have Hx := Lib.hid hx
      have Hm := Lib.hid (fun w h hB => implHoldsIn p ms X B u w h hB)
      have Htb : Hid ((bits BinOp.and IntKind.i64 ((X : Int) / 2 ^ K) 1 == 1) = X.testBit K) := by
        unfold Hid
        cases ht : X.testBit K with
        | true => exact and_one_yes (by omega) ht
        | false => exact and_one_no (by omega) ht
      have hmn : min K 64 = K := by omega
      clear hok hx hf
      generalize holdsV p ms X = o at *
      go_enter Try.func19, Try.ntmps19
      go_upto_region 1 with fail
      obtain ⟨w1, hw1, n1, n2, hbw, hsz⟩ := new_two w (.int .i64 K) u TC
      rw [← hw1]
      have Hr1 := Lib.hid (hr.below (w' := w1) (fun q hq => hbw.block q (by omega)))
      have hB1 : B ≤ w1.heap.size := by omega
      have Hbw := Lib.hid hbw; clear hbw hw1 hr
      go_wp2_with fail
      refine (Hc.out _ Hr1.out hB1).mono ?_
      rintro e w2 ⟨rfl, hb2⟩
      have m1 := (hb2.cell (p := ⟨w.heap.size, 0, none⟩) hsz).trans n1
      have m2 := (hb2.cell (p := ⟨w.heap.size, 1, none⟩) hsz).trans n2
      have Hr2 := Lib.hid (Hr1.out.below (w' := w2) (fun q hq => hb2.block q (by omega)))
      have hB2 : B ≤ w2.heap.size := by have := hb2.size; omega
      have Hb2 := Lib.hid (Hbw.out.trans (hb2.mono Hbw.out.size)); clear hb2 n1 n2
      go_wp2_with fail
      refine (implWorldOk _ _ _).mono ?_
      rintro e w' ⟨rfl, rfl⟩
      rw [Hx.out]
      go_wp2_with fail
      refine (Hm.out _ Hr2.out hB2).mono ?_
      rintro e w3 ⟨rfl, hb3⟩
      have Hb3 := Lib.hid (Hb2.out.trans (hb3.mono Hb2.out.size)); clear hb3
      go_wp2
      go_ret
      exact ⟨ret_bool (by rw [Hf.out, ← Htb.out]), by first | exact Hb3.out | exact below_drew1 Hb3.out | exact below_drewN Hb3.out _⟩
end Go.Proofs.Ytemldnjpcnogpaa

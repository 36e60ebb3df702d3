/- Contracts of the program's claims and stories. -/
import Derived.Test.YtpccldbcmanhdaaClaimT
import Derived.Test.YtpccldbcmanhdaaTruthI
import Derived.Test.YtpccldbcmanhdaaConcat
namespace Go.Proofs.Ytpccldbcmanhdaa
open Go.RowKit Go.Joins
/-- what a call hands back that returns a claim in memory of its own, and whether it is one -/
def ClaimOut (c : Cl) (o : Bool) (w : World) (e : Ending) (w' : World) : Prop := ∃ v, e = .returned (.tuple #[.agg #[.int .i64 c.1, v], .bool o]) ∧ w'.ownsRow w.heap.size TM 2 v c.2.length (mcells c.2) ∧ Below w.heap.size w w'
attribute [local irreducible] holds tabN tabV holdsV sameV followsV alwaysV matterV claimOk mayT mayV ctabV ctabN storyV storyOk storyN storyT ctermV ctermL denyV denyOk allV
theorem claimOk_len {p k : Int} {ms : List (Int × Int)} (h : ¬ ms.length ≤ 13) : claimOk p (k, ms) = false := by
  cases hc : claimOk p (k, ms) with
  | false => rfl
  | true => exact absurd (claimOk_iff.1 hc).2.2.2 h
theorem claimOk_term {p k : Int} {ms : List (Int × Int)} (h0 : 0 ≤ k) (h1 : k < p) (h : ms.length ≤ 13) : claimOk p (k, ms) = termOk p ms := by
  rw [Bool.eq_iff_iff, claimOk_iff]
  exact ⟨fun h => h.2.2.1, fun ht => ⟨h0, h1, ht, h⟩⟩
theorem below_and {B : Nat} {a w : World} {e : Ending} {b : Value} (h : e = .returned b ∧ Below B a w) : e = .returned b := h.1
set_option maxHeartbeats 1000000 in
theorem implClaimOk (p k : Int) (ms : List (Int × Int)) (B : Nat) (u : Value) (w : World) (hr : RdMarks w B u ms) (hB : B ≤ w.heap.size) :
    Calls Try.prog 20 #[.int .i64 p, .agg #[.int .i64 k, u]] w fun e w' => e = .returned (.bool (claimOk p (k, ms))) ∧ Below w.heap.size w w' := by
  have hbw : ∀ o, Below w.heap.size w (w.alloc o) := fun o => (Below.refl _ _).alloc (Nat.le_refl _) o
  by_cases h0 : 0 ≤ k
  case neg =>
    have Hf := Lib.hid (claimOk_no_who (p := p) (c := (k, ms)) (fun h => h0 h.1))
    clear hr
    go_enter Try.func20, Try.ntmps20
    go_wp2
    go_ret
    exact ⟨by rw [Hf.out]; rfl, hbw _⟩
  by_cases h1 : k < p
  case neg =>
    have Hf := Lib.hid (claimOk_no_who (p := p) (c := (k, ms)) (fun h => h1 h.2))
    clear hr
    go_enter Try.func20, Try.ntmps20
    go_wp2
    go_ret
    exact ⟨by rw [Hf.out]; rfl, hbw _⟩
  have Hr := Lib.hid (fun o => hr.below (w' := w.alloc o) (fun q hq => (hbw o).block q (by omega)))
  obtain ⟨ao, cap, rfl, hl, hm, _, _⟩ := hr
  unfold maxLen at hm
  by_cases hn : ms.length ≤ 13
  case neg =>
    have Hf := Lib.hid (claimOk_len (p := p) (k := k) hn)
    clear Hr
    go_enter Try.func20, Try.ntmps20
    go_wp2
    go_ret
    exact ⟨by rw [Hf.out]; rfl, hbw _⟩
  have Hf := Lib.hid (claimOk_term (p := p) h0 h1 hn)
  go_enter Try.func20, Try.ntmps20
  go_wp2_with fail
  refine (implTermOk _ _ B _ _ (Hr.out _) (by simp; omega)).mono ?_
  rintro e w1 ⟨rfl, hb1⟩
  have Hb1 := Lib.hid hb1; clear hb1
  go_wp2
  go_ret
  exact ⟨by rw [Hf.out]; rfl, (hbw _).trans (Hb1.out.mono (by simp))⟩
theorem may_holds {p k x : Int} {ms : List (Int × Int)} (h : claimOk p (k, ms) = true) (hx : wOk p x = true) : ∃ K X : Nat, k = K ∧ x = X ∧ K < 4 ∧ X < 16 ∧ mayV p (k, ms) x = (X.testBit K == holdsV p ms x) := by
  obtain ⟨K, t, rfl, hK, _, _, ht, rfl, hl, hok, hm⟩ := claim_parts h
  obtain ⟨_, _, hx0, hx16⟩ := wOk_lt hx
  obtain ⟨X, rfl⟩ := Int.eq_ofNat_of_zero_le hx0
  refine ⟨K, X, rfl, rfl, hK, by omega, ?_⟩
  rw [mayV_yes h hx, Int.toNat_natCast, hm X, holdsV_at hok ht hx, Int.toNat_natCast]
set_option maxHeartbeats 1000000 in
theorem implMaySay (p k x : Int) (ms : List (Int × Int)) (B : Nat) (u : Value) (w : World) (hr : RdMarks w B u ms) (hB : B ≤ w.heap.size) :
    Calls Try.prog 36 #[.int .i64 p, .agg #[.int .i64 k, u], .int .i64 x] w fun e w' => e = .returned (.bool (mayV p (k, ms) x)) ∧ Below w.heap.size w w' := by
  have hc := fun w h hB => implClaimOk p k ms B u w h hB
  cases hok : claimOk p (k, ms) with
  | false =>
    have Hf := Lib.hid (mayV_no (x := x) hok)
    rw [hok] at hc
    have Hc := Lib.hid hc; clear hc hok
    go_enter Try.func36, Try.ntmps36
    go_upto_region 1 with fail
    obtain ⟨w1, hw1, n1, n2, hbw, hsz⟩ := new_two w (.int .i64 k) u TC
    rw [← hw1]
    have Hr1 := Lib.hid (hr.below (w' := w1) (fun q hq => hbw.block q (by omega)))
    have hB1 : B ≤ w1.heap.size := by omega
    have Hbw := Lib.hid hbw; clear hbw hw1 hr
    go_wp2_with fail
    refine (Hc.out _ Hr1.out hB1).mono ?_
    rintro e w2 ⟨rfl, hb2⟩
    have Hb2 := Lib.hid (Hbw.out.trans (hb2.mono Hbw.out.size)); clear hb2
    go_wp2
    go_ret
    exact ⟨by rw [Hf.out]; rfl, Hb2.out⟩
  | true =>
    rw [hok] at hc
    have Hc := Lib.hid hc; clear hc
    cases hx : wOk p x with
    | false =>
      have Hf := Lib.hid (mayV_no2 (c := (k, ms)) hx)
      have Hx := Lib.hid hx; clear hok hx
      go_enter Try.func36, Try.ntmps36
      go_upto_region 1 with fail
      obtain ⟨w1, hw1, n1, n2, hbw, hsz⟩ := new_two w (.int .i64 k) u TC
      rw [← hw1]
      have Hr1 := Lib.hid (hr.below (w' := w1) (fun q hq => hbw.block q (by omega)))
      have hB1 : B ≤ w1.heap.size := by omega
      have Hbw := Lib.hid hbw; clear hbw hw1 hr
      go_wp2_with fail
      refine (Hc.out _ Hr1.out hB1).mono ?_
      rintro e w2 ⟨rfl, hb2⟩
      have Hb2 := Lib.hid (Hbw.out.trans (hb2.mono Hbw.out.size)); clear hb2
      go_wp2_with fail
      refine (implWorldOk _ _ _).mono ?_
      rintro e w' ⟨rfl, rfl⟩
      rw [Hx.out]
      go_wp2
      go_ret
      exact ⟨by rw [Hf.out]; rfl, Hb2.out⟩
    | true =>
      obtain ⟨K, X, rfl, rfl, hK, hX, hf⟩ := may_holds hok hx
      have Hf := Lib.hid hf
      have Hx := Lib.hid hx
      have Hm := Lib.hid (fun w h hB => implHoldsIn p ms X B u w h hB)
      have Htb : Hid ((bits BinOp.and IntKind.i64 ((X : Int) / 2 ^ K) 1 == 1) = X.testBit K) := by
        unfold Hid
        cases ht : X.testBit K with
        | true => exact and_one_yes (by omega) ht
        | false => exact and_one_no (by omega) ht
      have hmn : min K 64 = K := by omega
      clear hok hx hf
      generalize holdsV p ms X = o at *
      go_enter Try.func36, Try.ntmps36
      go_upto_region 1 with fail
      obtain ⟨w1, hw1, n1, n2, hbw, hsz⟩ := new_two w (.int .i64 K) u TC
      rw [← hw1]
      have Hr1 := Lib.hid (hr.below (w' := w1) (fun q hq => hbw.block q (by omega)))
      have hB1 : B ≤ w1.heap.size := by omega
      have Hbw := Lib.hid hbw; clear hbw hw1 hr
      go_wp2_with fail
      refine (Hc.out _ Hr1.out hB1).mono ?_
      rintro e w2 ⟨rfl, hb2⟩
      have m1 := (hb2.cell (p := ⟨w.heap.size, 0, none⟩) hsz).trans n1
      have m2 := (hb2.cell (p := ⟨w.heap.size, 1, none⟩) hsz).trans n2
      have Hr2 := Lib.hid (Hr1.out.below (w' := w2) (fun q hq => hb2.block q (by omega)))
      have hB2 : B ≤ w2.heap.size := by have := hb2.size; omega
      have Hb2 := Lib.hid (Hbw.out.trans (hb2.mono Hbw.out.size)); clear hb2 n1 n2
      go_wp2_with fail
      refine (implWorldOk _ _ _).mono ?_
      rintro e w' ⟨rfl, rfl⟩
      rw [Hx.out]
      go_wp2_with fail
      refine (Hm.out _ Hr2.out hB2).mono ?_
      rintro e w3 ⟨rfl, hb3⟩
      have Hb3 := Lib.hid (Hb2.out.trans (hb3.mono Hb2.out.size)); clear hb3
      go_wp2
      go_ret
      exact ⟨ret_bool (by rw [Hf.out, ← Htb.out]), by first | exact Hb3.out | exact below_drew1 Hb3.out | exact below_drewN Hb3.out _⟩
theorem below_allocs3 (w : World) (a b c : Obj) : Below w.heap.size w (((w.alloc a).alloc b).alloc c) :=
  (((Below.refl _ _).alloc (Nat.le_refl _) _).alloc (by simp) _).alloc (by simp; omega) _
set_option maxHeartbeats 2000000 in
theorem implClaimTerm (p k : Int) (ms : List (Int × Int)) (B : Nat) (u : Value) (w : World) (hr : RdMarks w B u ms) (hB : B ≤ w.heap.size) :
    Calls Try.prog 54 #[.int .i64 p, .agg #[.int .i64 k, u]] w (RowOut (ctermV p (k, ms)) w) := by
  have hc := fun w h hB => implClaimOk p k ms B u w h hB
  cases hok : claimOk p (k, ms) with
  | false =>
    have Hf := Lib.hid (ctermV_no hok)
    rw [hok] at hc
    have Hc := Lib.hid hc; clear hc hok
    go_enter Try.func54, Try.ntmps54
    go_upto_region 1 with fail
    obtain ⟨w1, hw1, n1, n2, hbw, hsz⟩ := new_two w (.int .i64 k) u TC
    rw [← hw1]
    have Hr1 := Lib.hid (hr.below (w' := w1) (fun q hq => hbw.block q (by omega)))
    have hB1 : B ≤ w1.heap.size := by omega
    have Hbw := Lib.hid hbw; clear hbw hw1 hr
    go_wp2_with fail
    refine (Hc.out _ Hr1.out hB1).mono ?_
    rintro e w2 ⟨rfl, hb2⟩
    have Hb2 := Lib.hid (Hbw.out.trans (hb2.mono Hbw.out.size))
    clear hb2
    go_wp2
    go_ret
    exact ⟨_, rfl, by rw [Hf.out]; exact World.ownsRow_nil _ _ _ _, Hb2.out⟩
  | true =>
    have Hf := Lib.hid (ctermV_yes hok)
    have hl13 : ms.length ≤ 13 := (claimOk_iff.1 hok).2.2.2
    have Hk : Hid (I64 k) := by
      obtain ⟨K, _, rfl, hK, _⟩ := claim_parts hok
      exact I64_small (by omega) (by omega)
    obtain ⟨ao, cap, rfl, hal, ham⟩ : ∃ ao cap, u = .slice ao ms.length cap ∧ ms.length ≤ cap ∧ cap ≤ maxLen := by
      obtain ⟨ao, cap, h1, h2, h3, _⟩ := hr
      exact ⟨ao, cap, h1, h2, h3⟩
    unfold maxLen at ham
    rw [hok] at hc
    have Hc := Lib.hid hc; clear hc hok
    go_enter Try.func54, Try.ntmps54
    go_upto_region 1 with fail
    obtain ⟨w1, hw1, n1, n2, hbw, hsz⟩ := new_two w (.int .i64 k) (.slice ao ms.length cap) TC
    rw [← hw1]
    have Hr1 := Lib.hid (hr.below (w' := w1) (fun q hq => hbw.block q (by omega)))
    have hB1 : B ≤ w1.heap.size := by omega
    have Hbw := Lib.hid hbw; clear hbw hw1 hr
    go_wp2_with fail
    refine (Hc.out _ Hr1.out hB1).mono ?_
    rintro e w2 ⟨rfl, hb2⟩
    have m1 := (hb2.cell (p := ⟨w.heap.size, 0, none⟩) hsz).trans n1
    have m2 := (hb2.cell (p := ⟨w.heap.size, 1, none⟩) hsz).trans n2
    have Hr2 := Lib.hid (Hr1.out.below (w' := w2) (fun q hq => hb2.block q (by omega)))
    have hB2 : B ≤ w2.heap.size := by have := hb2.size; omega
    have hb3 := Hbw.out.trans (hb2.mono Hbw.out.size)
    have Hb2 := Lib.hid hb3
    have hs2 := hb3.size
    have hsz2 : w.heap.size < w2.heap.size := by have := hb2.size; omega
    clear hb2 n1 n2 hb3
    go_upto_region 4 with fail
    obtain ⟨w3, hw3⟩ : ∃ w3 : World, w3 = (w2.alloc (.cells #[.int .i64 0, .int .i64 k] TM)).alloc (.cells #[.int .i64 5, .int .i64 0] TM) := ⟨_, rfl⟩
    have hG3 : w2.grownBy w3 none := by rw [hw3]; exact only_alloc (only_alloc (World.grownBy.refl _ _) _) _
    have hs3 : w3.heap.size = w2.heap.size + 1 + 1 := by rw [hw3]; simp
    have a0 : w3.cell? ⟨w2.heap.size, 0, none⟩ = some (.int .i64 0) := by rw [hw3]; go_simp
    have a1 : w3.cell? ⟨w2.heap.size, 1, none⟩ = some (.int .i64 k) := by rw [hw3]; go_simp
    have b0 : ∀ o, (w3.alloc o).cell? ⟨w2.heap.size + 1, 0, none⟩ = some (.int .i64 5) := fun o => by rw [hw3]; go_simp
    have b1 : ∀ o, (w3.alloc o).cell? ⟨w2.heap.size + 1, 1, none⟩ = some (.int .i64 0) := fun o => by rw [hw3]; go_simp
    have k2 : ∀ o, (w3.alloc o).cell? ⟨w.heap.size, 1, none⟩ = some (.slice ao ms.length cap) := fun o => by
      rw [World.cell?_alloc_lt w3 o ⟨w.heap.size, 1, none⟩ (by show w.heap.size < _; omega)]
      exact (hG3.cell_far ⟨w.heap.size, 1, none⟩ hsz2 (by simp)).trans m2
    rw [← hw3]
    clear hw3 m1 m2
    have HG3 := Lib.hid hG3; clear hG3
    have Hr3 := Lib.hid (Hr2.out.below (w' := w3) (fun q hq => HG3.out.block q (by omega) (by simp)))
    go_wp2_with fail
    have hb4 := below_allocs3 w3 (.cells #[.int .i64 0, .int .i64 k] TM) (.cells #[.int .i64 5, .int .i64 0] TM) (.cells #[.slice (some ⟨w2.heap.size + 1 + 1, 0, none⟩) 1 1, .slice ao ms.length cap, .slice (some ⟨w2.heap.size + 1 + 1 + 1, 0, none⟩) 1 1] TS)
    have hz4 : (((w3.alloc (.cells #[.int .i64 0, .int .i64 k] TM)).alloc (.cells #[.int .i64 5, .int .i64 0] TM)).alloc (.cells #[.slice (some ⟨w2.heap.size + 1 + 1, 0, none⟩) 1 1, .slice ao ms.length cap, .slice (some ⟨w2.heap.size + 1 + 1 + 1, 0, none⟩) 1 1] TS)).heap.size = w3.heap.size + 3 := by simp
    have c0 : (((w3.alloc (.cells #[.int .i64 0, .int .i64 k] TM)).alloc (.cells #[.int .i64 5, .int .i64 0] TM)).alloc (.cells #[.slice (some ⟨w2.heap.size + 1 + 1, 0, none⟩) 1 1, .slice ao ms.length cap, .slice (some ⟨w2.heap.size + 1 + 1 + 1, 0, none⟩) 1 1] TS)).cell? ⟨w2.heap.size + 1 + 1, 0, none⟩ = some (.int .i64 0) := by go_simp
    have c1 : (((w3.alloc (.cells #[.int .i64 0, .int .i64 k] TM)).alloc (.cells #[.int .i64 5, .int .i64 0] TM)).alloc (.cells #[.slice (some ⟨w2.heap.size + 1 + 1, 0, none⟩) 1 1, .slice ao ms.length cap, .slice (some ⟨w2.heap.size + 1 + 1 + 1, 0, none⟩) 1 1] TS)).cell? ⟨w2.heap.size + 1 + 1, 1, none⟩ = some (.int .i64 k) := by go_simp
    have c2 : (((w3.alloc (.cells #[.int .i64 0, .int .i64 k] TM)).alloc (.cells #[.int .i64 5, .int .i64 0] TM)).alloc (.cells #[.slice (some ⟨w2.heap.size + 1 + 1, 0, none⟩) 1 1, .slice ao ms.length cap, .slice (some ⟨w2.heap.size + 1 + 1 + 1, 0, none⟩) 1 1] TS)).cell? ⟨w2.heap.size + 1 + 1 + 1, 0, none⟩ = some (.int .i64 5) := by go_simp
    have c3 : (((w3.alloc (.cells #[.int .i64 0, .int .i64 k] TM)).alloc (.cells #[.int .i64 5, .int .i64 0] TM)).alloc (.cells #[.slice (some ⟨w2.heap.size + 1 + 1, 0, none⟩) 1 1, .slice ao ms.length cap, .slice (some ⟨w2.heap.size + 1 + 1 + 1, 0, none⟩) 1 1] TS)).cell? ⟨w2.heap.size + 1 + 1 + 1, 1, none⟩ = some (.int .i64 0) := by go_simp
    have c4 : (((w3.alloc (.cells #[.int .i64 0, .int .i64 k] TM)).alloc (.cells #[.int .i64 5, .int .i64 0] TM)).alloc (.cells #[.slice (some ⟨w2.heap.size + 1 + 1, 0, none⟩) 1 1, .slice ao ms.length cap, .slice (some ⟨w2.heap.size + 1 + 1 + 1, 0, none⟩) 1 1] TS)).cell? ⟨w2.heap.size + 1 + 1 + 1 + 1, 0, none⟩ = some (.slice (some ⟨w2.heap.size + 1 + 1, 0, none⟩) 1 1) := by go_simp
    have c5 : (((w3.alloc (.cells #[.int .i64 0, .int .i64 k] TM)).alloc (.cells #[.int .i64 5, .int .i64 0] TM)).alloc (.cells #[.slice (some ⟨w2.heap.size + 1 + 1, 0, none⟩) 1 1, .slice ao ms.length cap, .slice (some ⟨w2.heap.size + 1 + 1 + 1, 0, none⟩) 1 1] TS)).cell? ⟨w2.heap.size + 1 + 1 + 1 + 1, 1, none⟩ = some (.slice ao ms.length cap) := by go_simp
    have c6 : (((w3.alloc (.cells #[.int .i64 0, .int .i64 k] TM)).alloc (.cells #[.int .i64 5, .int .i64 0] TM)).alloc (.cells #[.slice (some ⟨w2.heap.size + 1 + 1, 0, none⟩) 1 1, .slice ao ms.length cap, .slice (some ⟨w2.heap.size + 1 + 1 + 1, 0, none⟩) 1 1] TS)).cell? ⟨w2.heap.size + 1 + 1 + 1 + 1, 2, none⟩ = some (.slice (some ⟨w2.heap.size + 1 + 1 + 1, 0, none⟩) 1 1) := by go_simp
    generalize ((w3.alloc (.cells #[.int .i64 0, .int .i64 k] TM)).alloc (.cells #[.int .i64 5, .int .i64 0] TM)).alloc (.cells #[.slice (some ⟨w2.heap.size + 1 + 1, 0, none⟩) 1 1, .slice ao ms.length cap, .slice (some ⟨w2.heap.size + 1 + 1 + 1, 0, none⟩) 1 1] TS) = w4 at *
    refine (concat3 w4 _ _ _ _ ms 0 k 5 0 (by omega) (by omega) (by omega) c4 c5 c6 c0 c1 c2 c3 (I64_small (by omega) (by omega)) Hk.out (I64_small (by omega) (by omega)) (I64_small (by omega) (by omega)) ((Hr3.out.below (w' := w4) (fun q hq => hb4.block q (by omega))).mono (by omega)) (by omega)).mono ?_
    rintro e w5 ⟨v, rfl, ho, hb5⟩
    have Ho := Lib.hid ho
    have hb3 : Below w.heap.size w w3 := Hb2.out.trans ((below_none HG3.out).mono hs2)
    have Hb5 := Lib.hid (hb3.trans ((hb4.mono hb3.size).trans (hb5.mono (show w.heap.size ≤ _ by omega))))
    have hs4 : w.heap.size ≤ w4.heap.size := by omega
    clear ho hb5 hb3 hb4 c0 c1 c2 c3 c4 c5 c6 a0 a1 b0 b1 k2
    go_wp2
    go_ret
    refine ⟨v, rfl, ?_, Hb5.out⟩
    rw [Hf.out]
    unfold ctermL
    exact own_mono Ho.out hs4
theorem tabV_ctermV (p k : Int) (ms : List (Int × Int)) : tabV p (ctermV p (k, ms)) = ctabV p (k, ms) := by
  cases hok : claimOk p (k, ms) with
  | true => rw [ctermV_yes hok, tabV_cterm hok]
  | false =>
    rw [ctermV_no hok, ctabV_no hok]
    refine tabV_no ?_
    cases h : termOk p [] with
    | false => rfl
    | true =>
      obtain ⟨_, _, t, _, ht⟩ := termOk_iff.1 h
      have := post_pos t
      rw [← ht] at this
      simp at this
theorem I64s_ctermV {p k : Int} {ms : List (Int × Int)} (h : I64s ms) : I64s (ctermV p (k, ms)) := by
  cases hok : claimOk p (k, ms) with
  | false => rw [ctermV_no hok]; intro m hm; simp at hm
  | true =>
    obtain ⟨K, _, rfl, hK, _⟩ := claim_parts hok
    rw [ctermV_yes hok]
    unfold ctermL
    exact I64s_append (xs := (0, (K : Int)) :: ms) (I64s_append (xs := [(0, (K : Int))]) (I64s_one (I64_small (by omega) (by omega)) (I64_small (by omega) (by omega))) h) (I64s_one (I64_small (by omega) (by omega)) (I64_small (by omega) (by omega)))
set_option maxHeartbeats 1000000 in
theorem implClaimTable (p k : Int) (ms : List (Int × Int)) (B : Nat) (u : Value) (w : World) (hr : RdMarks w B u ms) (hB : B ≤ w.heap.size) :
    Calls Try.prog 40 #[.int .i64 p, .agg #[.int .i64 k, u]] w fun e w' => e = .returned (.int .i64 (ctabV p (k, ms))) ∧ Below w.heap.size w w' := by
  have Hi : Hid (I64s (ctermV p (k, ms))) := by
    obtain ⟨_, _, _, _, _, h, _⟩ := hr
    exact I64s_ctermV h
  have Hf := Lib.hid (tabV_ctermV p k ms)
  have Hc := Lib.hid (fun w h hB => implClaimTerm p k ms B u w h hB)
  generalize ctermV p (k, ms) = L at *
  go_enter Try.func40, Try.ntmps40
  go_upto_region 1 with fail
  obtain ⟨w1, hw1, n1, n2, hbw, hsz⟩ := new_two w (.int .i64 k) u TC
  rw [← hw1]
  have Hr1 := Lib.hid (hr.below (w' := w1) (fun q hq => hbw.block q (by omega)))
  have hB1 : B ≤ w1.heap.size := by omega
  have Hbw := Lib.hid hbw; clear hbw hw1 hr
  go_wp2_with fail
  refine (Hc.out _ Hr1.out hB1).mono ?_
  rintro e w2 ⟨v, rfl, ho, hb2⟩
  have Hr2 := Lib.hid (RdMarks.of_own ho Hi.out)
  have Hb2 := Lib.hid (Hbw.out.trans (hb2.mono Hbw.out.size)); clear hb2 ho
  go_wp2_with fail
  refine (implTableOf p L _ _ _ Hr2.out (Nat.le_refl _)).mono ?_
  rintro e w3 ⟨rfl, hb3⟩
  have Hb3 := Lib.hid (Hb2.out.trans (hb3.mono Hb2.out.size)); clear hb3
  go_wp2
  go_ret
  exact ⟨by rw [Hf.out]; rfl, Hb3.out⟩
end Go.Proofs.Ytpccldbcmanhdaa

/- Contracts of the program's claims and stories. -/
import Derived.Test.YthiabicleedleaaMerged9
import Derived.Test.YthiabicleedleaaTruthI
import Derived.Test.YthiabicleedleaaMerged11
namespace Go.Proofs.Ythiabicleedleaa
open Go.RowKit Go.Joins
/-- what a call hands back that returns a claim in memory of its own, and whether it is one -/
def ClaimOut (c : Cl) (o : Bool) (w : World) (e : Ending) (w' : World) : Prop := ∃ v, e = .returned (.tuple #[.agg #[.int .i64 c.1, v], .bool o]) ∧ w'.ownsRow w.heap.size TM 2 v c.2.length (mcells c.2) ∧ Below w.heap.size w w'
attribute [local irreducible] holds tabN tabV holdsV sameV followsV alwaysV matterV claimOk mayT mayV ctabV ctabN storyV storyOk storyN storyT ctermV ctermL denyV denyOk allV
theorem claimOk_len {p k : Int} {ms : List (Int × Int)} (h : ¬ ms.length ≤ 13) : claimOk p (k, ms) = false := by
  cases hc : claimOk p (k, ms) with
  | false => rfl
  | true => exact absurd (claimOk_iff.1 hc).2.2.2 h
theorem claimOk_term {p k : Int} {ms : List (Int × Int)} (h0 : 0 ≤ k) (h1 : k < p) (h : ms.length ≤ 13) : claimOk p (k, ms) = termOk p ms := by
  rw [Bool.eq_iff_iff, claimOk_iff]
  exact ⟨fun h => h.2.2.1, fun ht => ⟨h0, h1, ht, h⟩⟩
theorem below_and {B : Nat} {a w : World} {e : Ending} {b : Value} (h : e = .returned b ∧ Below B a w) : e = .returned b := h.1
set_option maxHeartbeats 1000000 in
theorem implClaimOk (p k : Int) (ms : List (Int × Int)) (B : Nat) (u : Value) (w : World) (hr : RdMarks w B u ms) (hB : B ≤ w.heap.size) :
    Calls Try.prog 46 #[.int .i64 p, .agg #[.int .i64 k, u]] w fun e w' => e = .returned (.bool (claimOk p (k, ms))) ∧ Below w.heap.size w w' := by
  have hbw : ∀ o, Below w.heap.size w (w.alloc o) := fun o => (Below.refl _ _).alloc (Nat.le_refl _) o
  by_cases h01 : 0 ≤ k ∧ k < p
  case neg =>
    have Hf := Lib.hid (claimOk_no_who (p := p) (c := (k, ms)) h01)
    have Hd : Hid (decide (0 ≤ k ∧ k < p) = false) := decide_eq_false h01
    clear hr h01
    go_enter Try.func46, Try.ntmps46
    go_wp2_with fail
    refine (implPersonOk _ _ _).mono ?_
    rintro e w' ⟨rfl, rfl⟩
    rw [Hd.out]
    go_wp2
    go_ret
    exact ⟨by rw [Hf.out]; rfl, hbw _⟩
  have Hd : Hid (decide (0 ≤ k ∧ k < p) = true) := decide_eq_true h01
  obtain ⟨h0, h1⟩ := h01
  have Hr := Lib.hid (fun o => hr.below (w' := w.alloc o) (fun q hq => (hbw o).block q (by omega)))
  obtain ⟨ao, cap, rfl, hl, hm, _, _⟩ := hr
  unfold maxLen at hm
  by_cases hn : ms.length ≤ 13
  case neg =>
    have Hf := Lib.hid (claimOk_len (p := p) (k := k) hn)
    clear Hr h0 h1
    go_enter Try.func46, Try.ntmps46
    go_wp2_with fail
    refine (implPersonOk _ _ _).mono ?_
    rintro e w' ⟨rfl, rfl⟩
    rw [Hd.out]
    go_wp2
    go_ret
    exact ⟨by rw [Hf.out]; rfl, hbw _⟩
  have Hf := Lib.hid (claimOk_term (p := p) h0 h1 hn)
  clear h0 h1
  go_enter Try.func46, Try.ntmps46
  go_wp2_with fail
  refine (implPersonOk _ _ _).mono ?_
  rintro e w' ⟨rfl, rfl⟩
  rw [Hd.out]
  go_wp2_with fail
  refine (implTermOk _ _ B _ _ (Hr.out _) (by simp; omega)).mono ?_
  rintro e w1 ⟨rfl, hb1⟩
  have Hb1 := Lib.hid hb1; clear hb1
  go_wp2
  go_ret
  exact ⟨by rw [Hf.out]; rfl, (hbw _).trans (Hb1.out.mono (by simp))⟩
theorem may_holds {p k x : Int} {ms : List (Int × Int)} (h : claimOk p (k, ms) = true) (hx : wOk p x = true) : ∃ K X : Nat, k = K ∧ x = X ∧ K < 4 ∧ X < 16 ∧ mayV p (k, ms) x = (X.testBit K == holdsV p ms x) := by
  obtain ⟨K, t, rfl, hK, _, _, ht, rfl, hl, hok, hm⟩ := claim_parts h
  obtain ⟨_, _, hx0, hx16⟩ := wOk_lt hx
  obtain ⟨X, rfl⟩ := Int.eq_ofNat_of_zero_le hx0
  refine ⟨K, X, rfl, rfl, hK, by omega, ?_⟩
  rw [mayV_yes h hx, Int.toNat_natCast, hm X, holdsV_at hok ht hx, Int.toNat_natCast]
set_option maxHeartbeats 1000000 in
theorem implMaySay (p k x : Int) (ms : List (Int × Int)) (B : Nat) (u : Value) (w : World) (hr : RdMarks w B u ms) (hB : B ≤ w.heap.size) :
    Calls Try.prog 61 #[.int .i64 p, .agg #[.int .i64 k, u], .int .i64 x] w fun e w' => e = .returned (.bool (mayV p (k, ms) x)) ∧ Below w.heap.size w w' := by
  have hc := fun w h hB => implClaimOk p k ms B u w h hB
  cases hok : claimOk p (k, ms) with
  | false =>
    have Hf := Lib.hid (mayV_no (x := x) hok)
    rw [hok] at hc
    have Hc := Lib.hid hc; clear hc hok
    go_enter Try.func61, Try.ntmps61
    go_upto_region 1 with fail
    obtain ⟨w1, hw1, n1, n2, hbw, hsz⟩ := new_two w (.int .i64 k) u TC
    rw [← hw1]
    have Hr1 := Lib.hid (hr.below (w' := w1) (fun q hq => hbw.block q (by omega)))
    have hB1 : B ≤ w1.heap.size := by omega
    have Hbw := Lib.hid hbw; clear hbw hw1 hr
    go_wp2_with fail
    refine (Hc.out _ Hr1.out hB1).mono ?_
    rintro e w2 ⟨rfl, hb2⟩
    have Hb2 := Lib.hid (Hbw.out.trans (hb2.mono Hbw.out.size)); clear hb2
    go_wp2
    go_ret
    exact ⟨by rw [Hf.out]; rfl, Hb2.out⟩
  | true =>
    rw [hok] at hc
    have Hc := Lib.hid hc; clear hc
    cases hx : wOk p x with
    | false =>
      have Hf := Lib.hid (mayV_no2 (c := (k, ms)) hx)
      have Hx := Lib.hid hx; clear hok hx
      go_enter Try.func61, Try.ntmps61
      go_upto_region 1 with fail
      obtain ⟨w1, hw1, n1, n2, hbw, hsz⟩ := new_two w (.int .i64 k) u TC
      rw [← hw1]
      have Hr1 := Lib.hid (hr.below (w' := w1) (fun q hq => hbw.block q (by omega)))
      have hB1 : B ≤ w1.heap.size := by omega
      have Hbw := Lib.hid hbw; clear hbw hw1 hr
      go_wp2_with fail
      refine (Hc.out _ Hr1.out hB1).mono ?_
      rintro e w2 ⟨rfl, hb2⟩
      have Hb2 := Lib.hid (Hbw.out.trans (hb2.mono Hbw.out.size)); clear hb2
      go_wp2_with fail
      refine (implWorldOk _ _ _).mono ?_
      rintro e w' ⟨rfl, rfl⟩
      rw [Hx.out]
      go_wp2
      go_ret
      exact ⟨by rw [Hf.out]; rfl, Hb2.out⟩
    | true =>
      obtain ⟨K, X, rfl, rfl, hK, hX, hf⟩ := may_holds hok hx
      have Hf := Lib.hid hf
      have Hx := Lib.hid hx
      have Hm := Lib.hid (fun w h hB => implHoldsIn p ms X B u w h hB)
      have Htb : Hid ((bits BinOp.and IntKind.i64 ((X : Int) / 2 ^ K) 1 == 1) = X.testBit K) := by
        unfold Hid
        cases ht : X.testBit K with
        | true => exact and_one_yes (by omega) ht
        | false => exact and_one_no (by omega) ht
      have hmn : min K 64 = K := by omega
      clear hok hx hf
      generalize holdsV p ms X = o at *
      go_enter Try.func61, Try.ntmps61
      go_upto_region 1 with fail
      obtain ⟨w1, hw1, n1, n2, hbw, hsz⟩ := new_two w (.int .i64 K) u TC
      rw [← hw1]
      have Hr1 := Lib.hid (hr.below (w' := w1) (fun q hq => hbw.block q (by omega)))
      have hB1 : B ≤ w1.heap.size := by omega
      have Hbw := Lib.hid hbw; clear hbw hw1 hr
      go_wp2_with fail
      refine (Hc.out _ Hr1.out hB1).mono ?_
      rintro e w2 ⟨rfl, hb2⟩
      have m1 := (hb2.cell (p := ⟨w.heap.size, 0, none⟩) hsz).trans n1
      have m2 := (hb2.cell (p := ⟨w.heap.size, 1, none⟩) hsz).trans n2
      have Hr2 := Lib.hid (Hr1.out.below (w' := w2) (fun q hq => hb2.block q (by omega)))
      have hB2 : B ≤ w2.heap.size := by have := hb2.size; omega
      have Hb2 := Lib.hid (Hbw.out.trans (hb2.mono Hbw.out.size)); clear hb2 n1 n2
      go_wp2_with fail
      refine (implWorldOk _ _ _).mono ?_
      rintro e w' ⟨rfl, rfl⟩
      rw [Hx.out]
      go_wp2_with fail
      refine (Hm.out _ Hr2.out hB2).mono ?_
      rintro e w3 ⟨rfl, hb3⟩
      have Hb3 := Lib.hid (Hb2.out.trans (hb3.mono Hb2.out.size)); clear hb3
      go_wp2
      go_ret
      exact ⟨ret_bool (by rw [Hf.out, ← Htb.out]), by first | exact Hb3.out | exact below_drew1 Hb3.out | exact below_drewN Hb3.out _⟩
set_option maxHeartbeats 2000000 in
theorem implClaimTerm (p k : Int) (ms : List (Int × Int)) (B : Nat) (u : Value) (w : World) (hr : RdMarks w B u ms) (hB : B ≤ w.heap.size) :
    Calls Try.prog 68 #[.int .i64 p, .agg #[.int .i64 k, u]] w (RowOut (ctermV p (k, ms)) w) := by
  have hc := fun w h hB => implClaimOk p k ms B u w h hB
  cases hok : claimOk p (k, ms) with
  | false =>
    have Hf := Lib.hid (ctermV_no hok)
    rw [hok] at hc
    have Hc := Lib.hid hc; clear hc hok
    go_enter Try.func68, Try.ntmps68
    go_upto_region 1 with fail
    obtain ⟨w1, hw1, n1, n2, hbw, hsz⟩ := new_two w (.int .i64 k) u TC
    rw [← hw1]
    have Hr1 := Lib.hid (hr.below (w' := w1) (fun q hq => hbw.block q (by omega)))
    have hB1 : B ≤ w1.heap.size := by omega
    have Hbw := Lib.hid hbw; clear hbw hw1 hr
    go_wp2_with fail
    refine (Hc.out _ Hr1.out hB1).mono ?_
    rintro e w2 ⟨rfl, hb2⟩
    have Hb2 := Lib.hid (Hbw.out.trans (hb2.mono Hbw.out.size))
    clear hb2
    go_wp2
    go_ret
    exact ⟨_, rfl, by rw [Hf.out]; exact World.ownsRow_nil _ _ _ _, Hb2.out⟩
  | true =>
    have Hf := Lib.hid (ctermV_yes hok)
    have hl13 : ms.length ≤ 13 := (claimOk_iff.1 hok).2.2.2
    have Hk : Hid (I64 k) := by
      obtain ⟨K, _, rfl, hK, _⟩ := claim_parts hok
      exact I64_small (by omega) (by omega)
    rw [hok] at hc
    have Hc := Lib.hid hc; clear hc hok
    go_enter Try.func68, Try.ntmps68
    go_upto_region 1 with fail
    obtain ⟨w1, hw1, n1, n2, hbw, hsz⟩ := new_two w (.int .i64 k) u TC
    rw [← hw1]
    have Hr1 := Lib.hid (hr.below (w' := w1) (fun q hq => hbw.block q (by omega)))
    have hB1 : B ≤ w1.heap.size := by omega
    have Hbw := Lib.hid hbw; clear hbw hw1 hr
    go_wp2_with fail
    refine (Hc.out _ Hr1.out hB1).mono ?_
    rintro e w2 ⟨rfl, hb2⟩
    have m1 := (hb2.cell (p := ⟨w.heap.size, 0, none⟩) hsz).trans n1
    have m2 := (hb2.cell (p := ⟨w.heap.size, 1, none⟩) hsz).trans n2
    have Hr2 := Lib.hid (Hr1.out.below (w' := w2) (fun q hq => hb2.block q (by omega)))
    have hB2 : B ≤ w2.heap.size := by have := hb2.size; omega
    have Hb2 := Lib.hid (Hbw.out.trans (hb2.mono Hbw.out.size)); clear hb2 n1 n2
    go_wp2_with fail
    refine (implJustIfTells k ms Hk.out (by omega) B _ _ Hr2.out hB2).mono ?_
    rintro e w3 ⟨v, rfl, ho, hb3⟩
    have Ho := Lib.hid (own_mono ho Hb2.out.size)
    have Hb3 := Lib.hid (Hb2.out.trans (hb3.mono Hb2.out.size)); clear hb3 ho
    go_wp2
    go_ret
    exact ⟨v, rfl, by rw [Hf.out]; exact Ho.out, Hb3.out⟩
theorem tabV_ctermV (p k : Int) (ms : List (Int × Int)) : tabV p (ctermV p (k, ms)) = ctabV p (k, ms) := by
  cases hok : claimOk p (k, ms) with
  | true => rw [ctermV_yes hok, tabV_cterm hok]
  | false =>
    rw [ctermV_no hok, ctabV_no hok]
    refine tabV_no ?_
    cases h : termOk p [] with
    | false => rfl
    | true =>
      obtain ⟨_, _, t, _, ht⟩ := termOk_iff.1 h
      have := post_pos t
      rw [← ht] at this
      simp at this
theorem I64s_ctermV {p k : Int} {ms : List (Int × Int)} (h : I64s ms) : I64s (ctermV p (k, ms)) := by
  cases hok : claimOk p (k, ms) with
  | false => rw [ctermV_no hok]; intro m hm; simp at hm
  | true =>
    obtain ⟨K, _, rfl, hK, _⟩ := claim_parts hok
    rw [ctermV_yes hok]
    unfold ctermL
    exact I64s_append (xs := (0, (K : Int)) :: ms) (I64s_append (xs := [(0, (K : Int))]) (I64s_one (I64_small (by omega) (by omega)) (I64_small (by omega) (by omega))) h) (I64s_one (I64_small (by omega) (by omega)) (I64_small (by omega) (by omega)))
set_option maxHeartbeats 1000000 in
theorem implClaimTable (p k : Int) (ms : List (Int × Int)) (B : Nat) (u : Value) (w : World) (hr : RdMarks w B u ms) (hB : B ≤ w.heap.size) :
    Calls Try.prog 50 #[.int .i64 p, .agg #[.int .i64 k, u]] w fun e w' => e = .returned (.int .i64 (ctabV p (k, ms))) ∧ Below w.heap.size w w' := by
  have Hi : Hid (I64s (ctermV p (k, ms))) := by
    obtain ⟨_, _, _, _, _, h, _⟩ := hr
    exact I64s_ctermV h
  have Hf := Lib.hid (tabV_ctermV p k ms)
  have Hc := Lib.hid (fun w h hB => implClaimTerm p k ms B u w h hB)
  generalize ctermV p (k, ms) = L at *
  go_enter Try.func50, Try.ntmps50
  go_upto_region 1 with fail
  obtain ⟨w1, hw1, n1, n2, hbw, hsz⟩ := new_two w (.int .i64 k) u TC
  rw [← hw1]
  have Hr1 := Lib.hid (hr.below (w' := w1) (fun q hq => hbw.block q (by omega)))
  have hB1 : B ≤ w1.heap.size := by omega
  have Hbw := Lib.hid hbw; clear hbw hw1 hr
  go_wp2_with fail
  refine (Hc.out _ Hr1.out hB1).mono ?_
  rintro e w2 ⟨v, rfl, ho, hb2⟩
  have Hr2 := Lib.hid (RdMarks.of_own ho Hi.out)
  have Hb2 := Lib.hid (Hbw.out.trans (hb2.mono Hbw.out.size)); clear hb2 ho
  go_wp2_with fail
  refine (implTableOf p L _ _ _ Hr2.out (Nat.le_refl _)).mono ?_
  rintro e w3 ⟨rfl, hb3⟩
  have Hb3 := Lib.hid (Hb2.out.trans (hb3.mono Hb2.out.size)); clear hb3
  go_wp2
  go_ret
  exact ⟨by rw [Hf.out]; rfl, Hb3.out⟩
theorem storyOk_pre {p : Int} {qs : List QC} (h : ¬ (pOk p = true ∧ qs.length ≤ 6)) : storyOk p (qs.map (·.2)) = false := by
  cases hs : storyOk p (qs.map (·.2)) with
  | false => rfl
  | true =>
    obtain ⟨_, h1, h2⟩ := storyOk_iff.1 hs
    exact absurd ⟨h1, by simpa using h2⟩ h
set_option maxRecDepth 100000 in
set_option maxHeartbeats 2000000 in
theorem implStoryOk (p : Int) (qs : List QC) (B : Nat) (v : Value) (w : World) (hr : RdStory w B v qs) (hB : B ≤ w.heap.size) :
    Calls Try.prog 15 #[.int .i64 p, v] w fun e w' => e = .returned (.bool (storyOk p (qs.map (·.2)))) ∧ Below w.heap.size w w' := by
  have Hr := Lib.hid hr
  obtain ⟨ao, cap, rfl, hal, ham, _, hac0⟩ := hr
  have hac := Lib.hid hac0; clear hac0
  unfold maxLen at ham
  obtain ⟨wo, rfl⟩ : ∃ wo : World, wo = w := ⟨_, rfl⟩
  have hin := fun w => implPeopleOk p w
  cases hp : pOk p with
  | false =>
    have Hf := Lib.hid (storyOk_pre (p := p) (qs := qs) (fun h => by rw [hp] at h; exact Bool.noConfusion h.1))
    rw [hp] at hin
    have Hin := Lib.hid hin; clear hin hp
    go_enter Try.func15, Try.ntmps15
    go_wp2_with fail
    refine (Hin.out _).mono ?_
    rintro e w' ⟨rfl, rfl⟩
    go_wp2
    go_ret
    exact ⟨by rw [Hf.out]; rfl, Below.refl _ _⟩
  | true =>
  by_cases hlen : qs.length ≤ 6
  case neg =>
    have Hf := Lib.hid (storyOk_pre (p := p) (qs := qs) (fun h => hlen h.2))
    rw [hp] at hin
    have Hin := Lib.hid hin; clear hin hp
    go_enter Try.func15, Try.ntmps15
    go_wp2_with fail
    refine (Hin.out _).mono ?_
    rintro e w' ⟨rfl, rfl⟩
    go_wp2
    go_ret
    exact ⟨by rw [Hf.out]; rfl, Below.refl _ _⟩
  have Hv : Hid (((qs.take qs.length).all fun q => claimOk p q.2) = true → storyOk p (qs.map (·.2)) = true) := fun h => by
    rw [storyOk_all h, hp, decide_eq_true hlen]; rfl
  rw [hp] at hin
  have Hin := Lib.hid hin; clear hin hp
  go_enter Try.func15, Try.ntmps15
  go_wp2_with fail
  refine (Hin.out _).mono ?_
  rintro e w' ⟨rfl, rfl⟩
  go_wp2
  go_loopw [6, 17] (fun _ i wr => ∃ j : Nat, j ≤ qs.length ∧ i = .int .i64 j ∧ Hid (((qs.take j).all fun q => claimOk p q.2) = true) ∧ Below wo.heap.size wo wr) (fun _ i _ => qs.length - (intOf i).toNat)
  case atStart => exact ⟨0, Nat.zero_le _, rfl, rfl, Below.refl _ _⟩
  case round =>
    obtain ⟨j, hj, rfl, hall, hbr⟩ := hrel
    by_cases hlt : j < qs.length
    · obtain ⟨b, off, rfl, hb, hc1, hc2⟩ := hac.out j hlt
      rw [← hbr.cell (p := ⟨b, _, none⟩) (show b < _ by omega)] at hc1 hc2
      have hBr : B ≤ wr.heap.size := by have := hbr.size; omega
      have Hm := Lib.hid ((Hr.out.get hlt).1.below (w' := wr) (fun q hq => hbr.block q (by omega)))
      have Hsucc := Lib.hid (all_take_succ p qs j hlt)
      have Hno := Lib.hid (fun h => storyOk_no (p := p) hlt h)
      generalize qs.getD j qc0 = q at *
      obtain ⟨u, k, ms⟩ := q
      have hcl := fun w h hB => implClaimOk p k ms B u w h hB
      have Hbr := Lib.hid hbr
      dsimp only at hc1 hc2
      have Hm' : Hid (RdMarks wr B u ms) := Hm.out
      have Hsucc' : Hid (((qs.take (j + 1)).all fun q => claimOk p q.2) = (((qs.take j).all fun q => claimOk p q.2) && claimOk p (k, ms))) := Hsucc.out
      have Hno' : Hid (claimOk p (k, ms) = false → storyOk p (qs.map (·.2)) = false) := Hno.out
      clear Hm Hsucc Hno hbr
      obtain ⟨ao1, cap1, rfl⟩ : ∃ ao1 cap1, u = .slice ao1 ms.length cap1 := by
        obtain ⟨a, c, h, _⟩ := Hm'.out
        exact ⟨a, c, h⟩
      go_upto_region 6 with fail
      obtain ⟨w1, hw1, n1, n2, hbw, hsz⟩ := new_two wr (.int .i64 k) (.slice ao1 ms.length cap1) TC
      rw [← hw1]
      have Hr1 := Lib.hid (Hm'.out.below (w' := w1) (fun q hq => hbw.block q (by omega)))
      have hB1 : B ≤ w1.heap.size := by omega
      have Hbw := Lib.hid (Hbr.out.trans (hbw.mono Hbr.out.size)); clear hbw hw1 hc1 hc2
      cases hok : claimOk p (k, ms) with
      | false =>
        have Hf := Lib.hid (Hno'.out hok)
        rw [hok] at hcl
        have Hc := Lib.hid hcl; clear hcl hok
        go_wp2_with fail
        refine (Hc.out _ Hr1.out hB1).mono ?_
        rintro e w2 ⟨rfl, hb2⟩
        have Hb2 := Lib.hid (Hbw.out.trans (hb2.mono Hbw.out.size)); clear hb2
        go_wp2
        go_ret
        exact ⟨by rw [Hf.out]; rfl, Hb2.out⟩
      | true =>
        have Hs : Hid (((qs.take (j + 1)).all fun q => claimOk p q.2) = true) := by
          unfold Hid
          rw [Hsucc'.out, hall.out, hok]; rfl
        rw [hok] at hcl
        have Hc := Lib.hid hcl; clear hcl hok
        go_wp2_with fail
        refine (Hc.out _ Hr1.out hB1).mono ?_
        rintro e w2 ⟨rfl, hb2⟩
        have Hb2 := Lib.hid (Hbw.out.trans (hb2.mono Hbw.out.size)); clear hb2
        go_wp2
        go_roundw
        case rel => exact ⟨j + 1, by omega, by go_num, Hs, Hb2.out⟩
        case measure => simp [intOf]; omega
    · obtain rfl : j = qs.length := by omega
      have Hf := Lib.hid (Hv.out hall.out)
      have Hbr := Lib.hid hbr; clear hbr
      go_wp2
      go_ret
      exact ⟨by rw [Hf.out]; rfl, Hbr.out⟩
set_option maxRecDepth 100000 in
set_option maxHeartbeats 2000000 in
theorem implStoryTable (p : Int) (qs : List QC) (B : Nat) (v : Value) (w : World) (hr : RdStory w B v qs) (hB : B ≤ w.heap.size) :
    Calls Try.prog 18 #[.int .i64 p, v] w fun e w' => e = .returned (.int .i64 (storyV p (qs.map (·.2)))) ∧ Below w.heap.size w w' := by
  have hso := fun w h hB => implStoryOk p qs B v w h hB
  cases hok : storyOk p (qs.map (·.2)) with
  | false =>
    have Hf := Lib.hid (storyV_no hok)
    rw [hok] at hso
    have Hc := Lib.hid hso; clear hso hok
    go_enter Try.func18, Try.ntmps18
    go_wp2_with fail
    refine (Hc.out _ hr hB).mono ?_
    rintro e w2 ⟨rfl, hb2⟩
    have Hb2 := Lib.hid hb2; clear hb2
    go_wp2
    go_ret
    exact ⟨by rw [Hf.out]; rfl, Hb2.out⟩
  | true =>
  rw [hok] at hso
  have Hso := Lib.hid hso; clear hso
  have Hf := Lib.hid (storyV_yes hok)
  obtain ⟨hall, hp, _⟩ := storyOk_iff.1 hok
  have hp14 : 1 ≤ p ∧ p ≤ 4 := by simpa [pOk] using hp
  obtain ⟨h1, h4⟩ := hp14
  have Hall : Hid (∀ j, j < qs.length → claimOk p (qs.getD j qc0).2 = true) := fun j hj => by
    have e : qs.getD j qc0 = qs[j] := by simp [List.getD, hj]
    rw [e]; exact hall _ (List.mem_map.2 ⟨_, List.getElem_mem hj, rfl⟩)
  have Hlt : Hid (∀ s, storyN p s < 65536) := fun s => storyN_lt h1 h4
  have Hct : Hid (∀ c, ctabN p c < 65536) := fun s => ctabN_lt h1 h4
  have H0 : Hid (allV p = (storyN p [] : Int)) := by unfold Hid; rw [storyN_nil]; unfold allV; rfl
  have Haw := Lib.hid (fun w => implAllWorlds p h1 h4 w)
  have Hr := Lib.hid hr
  obtain ⟨ao, cap, rfl, hal, ham, _, hac0⟩ := hr
  have hac := Lib.hid hac0; clear hac0 hall hp hok h1 h4
  unfold maxLen at ham
  obtain ⟨wo, rfl⟩ : ∃ wo : World, wo = w := ⟨_, rfl⟩
  have Hcl0 : Hid (∀ (k : Int) (ms : List (Int × Int)), claimOk p (k, ms) = true → ∀ (u : Value) (w : World), RdMarks w B u ms → B ≤ w.heap.size → Calls Try.prog 50 #[.int .i64 p, .agg #[.int .i64 k, u]] w fun e w' => e = .returned (.int .i64 (ctabN p (k, ms))) ∧ Below w.heap.size w w') := by
    intro k ms h u w h1 h2
    have := implClaimTable p k ms B u w h1 h2
    rw [ctabV_yes h] at this
    exact this
  have Hsucc0 := Lib.hid (fun j hj => story_take p qs j hj)
  generalize storyN p = SN at *
  generalize ctabN p = CT at *
  generalize allV p = F at *
  go_enter Try.func18, Try.ntmps18
  go_wp2_with fail
  refine (Hso.out _ Hr.out hB).mono ?_
  rintro e w2 ⟨rfl, hb2⟩
  have Hb2 := Lib.hid hb2; clear hb2
  go_wp2_with fail
  refine (Haw.out _).mono ?_
  rintro e w' ⟨rfl, rfl⟩
  go_wp2
  go_loopw [5, 7, 16] (fun t' _ i wr => ∃ j : Nat, j ≤ qs.length ∧ i = .int .i64 j ∧ t' = .int .i64 (SN ((qs.take j).map (·.2))) ∧ Below wo.heap.size wo wr) (fun _ _ i _ => qs.length - (intOf i).toNat)
  case atStart => exact ⟨0, Nat.zero_le _, rfl, by rw [List.take_zero, List.map_nil, H0.out], Hb2.out⟩
  case round =>
    obtain ⟨j, hj, rfl, rfl, hbr⟩ := hrel
    by_cases hlt : j < qs.length
    · obtain ⟨b, off, rfl, hb, hc1, hc2⟩ := hac.out j hlt
      rw [← hbr.cell (p := ⟨b, _, none⟩) (show b < _ by omega)] at hc1 hc2
      have hBr : B ≤ wr.heap.size := by have := hbr.size; omega
      have Hm := Lib.hid ((Hr.out.get hlt).1.below (w' := wr) (fun q hq => hbr.block q (by omega)))
      have Hsucc := Lib.hid (Hsucc0.out j hlt)
      have hok := Hall.out j hlt
      generalize qs.getD j qc0 = q at *
      obtain ⟨u, k, ms⟩ := q
      have Hcl := Lib.hid (fun w h hB => Hcl0.out k ms hok u w h hB)
      have Hbr := Lib.hid hbr
      clear hbr hok
      dsimp only at hc1 hc2
      have Hm' : Hid (RdMarks wr B u ms) := Hm.out
      have Hsucc' : Hid (SN ((qs.take (j + 1)).map (·.2)) = SN ((qs.take j).map (·.2)) &&& CT (k, ms)) := Hsucc.out
      have hand := bits_and_nat (SN ((qs.take j).map (·.2))) (CT (k, ms)) (by have := Hlt.out ((qs.take j).map (·.2)); omega) (by have := Hct.out (k, ms); omega)
      clear Hm Hsucc
      generalize SN ((qs.take j).map (·.2)) = T at *
      generalize CT (k, ms) = U at *
      obtain ⟨ao1, cap1, rfl⟩ : ∃ ao1 cap1, u = .slice ao1 ms.length cap1 := by
        obtain ⟨a, c, h, _⟩ := Hm'.out
        exact ⟨a, c, h⟩
      go_upto_region 7 with fail
      obtain ⟨w1, hw1, n1, n2, hbw, hsz⟩ := new_two wr (.int .i64 k) (.slice ao1 ms.length cap1) TC
      rw [← hw1]
      have Hr1 := Lib.hid (Hm'.out.below (w' := w1) (fun q hq => hbw.block q (by omega)))
      have hB1 : B ≤ w1.heap.size := by omega
      have Hbw := Lib.hid (Hbr.out.trans (hbw.mono Hbr.out.size)); clear hbw hw1 hc1 hc2
      go_wp2_with fail
      refine (Hcl.out _ Hr1.out hB1).mono ?_
      rintro e w2 ⟨rfl, hb2⟩
      have Hb3 := Lib.hid (Hbw.out.trans (hb2.mono Hbw.out.size)); clear hb2
      go_wp2
      go_roundw
      case rel => exact ⟨j + 1, by omega, by go_num, by rw [Hsucc'.out], Hb3.out⟩
      case measure => simp [intOf]; omega
    · obtain rfl : j = qs.length := by omega
      have Hbr := Lib.hid hbr; clear hbr
      go_wp2
      go_ret
      exact ⟨by rw [Hf.out, List.take_length]; rfl, Hbr.out⟩
end Go.Proofs.Ythiabicleedleaa

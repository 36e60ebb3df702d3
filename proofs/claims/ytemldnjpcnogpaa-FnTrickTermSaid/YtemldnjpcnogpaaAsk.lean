/- Contracts of the reference's questions. -/
import Derived.Test.YtemldnjpcnogpaaAskM
import Derived.Test.YtemldnjpcnogpaaConcat
namespace Go.Proofs.Ytemldnjpcnogpaa
open Go.RowKit Go.Joins
theorem mcells_nil7 : mcells [] = [] := rfl
theorem mcells_app7 (xs ys : List (Int × Int)) : mcells (xs ++ ys) = mcells xs ++ mcells ys := mcells_append xs ys
theorem ctermL_eq (k : Int) (ms : List (Int × Int)) : ctermL (k, ms) = [(0, k)] ++ ms ++ [(5, 0)] := rfl
theorem inOk_decide (p k : Int) : inOk p k = decide (0 ≤ k ∧ k ≤ p - 1) := by unfold inOk; rw [decide_eq_decide]; omega
theorem ans_if {p k x : Int} {ms : List (Int × Int)} (h1 : termOk p ms = true) (h2 : wOk p x = true) (h3 : inOk p k = true) : ansN p k ms x = if mayT p (k, ms) x.toNat then 1 else 0 := ansN_yes h1 h2 h3
theorem ctermV_of (p k : Int) (ms : List (Int × Int)) : ctermV p (k, ms) = if claimOk p (k, ms) then ctermL (k, ms) else [] := rfl
theorem I64s_cterm7 {k : Int} {ms : List (Int × Int)} (hk : I64 k) (hi : I64s ms) : I64s (ctermL (k, ms)) := by
  have e0 : I64 0 := I64_small (by omega) (by omega)
  have e5 : I64 5 := I64_small (by omega) (by omega)
  rw [ctermL_eq]
  exact I64s_append (I64s_append (I64s_one e0 hk) hi) (I64s_one e5 e0)
theorem below_grown7 {B : Nat} {w w1 w2 : World} {row : Option Nat} (h : Below B w w1) (hg : w1.grownBy w2 row) (hB : B ≤ w1.heap.size) (hr : ∀ k, row = some k → B ≤ k) : Below B w w2 :=
  h.trans ⟨hg.os, hg.tape, hg.output, hg.size, fun i hi => hg.block i (by omega) (fun e => by have := hr i e.symm; omega)⟩
/-- a row of two marks around a term: two appends -/
theorem cterm_runs (w : World) (B : Nat) (u : Value) (k : Int) (ms : List (Int × Int)) (hr : RdMarks w B u ms) (hB : B ≤ w.heap.size) (hlen : ms.length ≤ 2000000) : ∃ (f2 : Option Addr) (g2 : Nat) (w2 : World) (f4 : Option Addr) (g4 : Nat) (w4 : World),
    (Builtin.append_ #[TS, TS] TS #[.slice (some ⟨w.heap.size, 0, none⟩) 1 1, u]).run Try.prog (w.alloc (.cells #[.int .i64 0, .int .i64 k] TM)) = .ok (.slice f2 (1 + ms.length) g2) w2 ∧
    (Builtin.append_ #[TS, TS] TS #[.slice f2 (1 + ms.length) g2, .slice (some ⟨w2.heap.size, 0, none⟩) 1 1]).run Try.prog (w2.alloc (.cells #[.int .i64 5, .int .i64 0] TM)) = .ok (.slice f4 (ms.length + 2) g4) w4 ∧
    w4.ownsRow w.heap.size TM 2 (.slice f4 (ms.length + 2) g4) (ctermL (k, ms)).length (mcells (ctermL (k, ms))) ∧ Below w.heap.size w w4 := by
  obtain ⟨im, hmi, hmz0, hmz1, hmz2⟩ := info_parts Try.infoM
  have hb1 : Below w.heap.size w (w.alloc (.cells #[.int .i64 0, .int .i64 k] TM)) := (Below.refl _ _).alloc (Nat.le_refl _) _
  have ho1 := own_new w w.heap.size 0 k (Nat.le_refl _)
  obtain ⟨v2, w2, hrun2, ho2, hg2, _⟩ := append_rd hmi hmz0 hmz1 hmz2 ho1 (hr.below (w' := w.alloc (.cells #[.int .i64 0, .int .i64 k] TM)) (fun q hq => hb1.block q (by omega))) (by omega) hb1.size
  have hb2 := below_grown7 hb1 hg2 hb1.size (fun q hq => (ho1.lt q hq).1)
  rw [← mcells_append] at ho2
  have hb3 : Below w.heap.size w (w2.alloc (.cells #[.int .i64 5, .int .i64 0] TM)) := hb2.alloc hb2.size _
  have ho3 := ho2.alloc (.cells #[.int .i64 5, .int .i64 0] TM)
  have hl3 : RdMarks (w2.alloc (.cells #[.int .i64 5, .int .i64 0] TM)) (w2.alloc (.cells #[.int .i64 5, .int .i64 0] TM)).heap.size (.slice (some ⟨w2.heap.size, 0, none⟩) 1 1) [(5, 0)] :=
    RdMarks.of_own (own_new w2 w2.heap.size 5 0 (Nat.le_refl _)) (I64s_one (I64_small (by omega) (by omega)) (I64_small (by omega) (by omega)))
  obtain ⟨v4, w4, hrun4, ho4, hg4, _⟩ := append_rd hmi hmz0 hmz1 hmz2 ho3 hl3 (by simp; omega) hb3.size
  have hb4 := below_grown7 hb3 hg4 hb3.size (fun q hq => (ho3.lt q hq).1)
  rw [← mcells_append, ← ctermL_eq] at ho4
  have hcl : (ctermL (k, ms)).length = ms.length + 2 := cterm_len2 k ms
  rw [show 1 + ms.length + [((5 : Int), (0 : Int))].length = (ctermL (k, ms)).length by rw [hcl]; simp; omega] at ho4
  obtain ⟨f2, g2, rfl⟩ := own_len ho2
  obtain ⟨f4, g4, rfl⟩ := own_len ho4
  rw [hcl] at hrun4 ho4 ⊢
  exact ⟨f2, g2, w2, f4, g4, w4, hrun2, hrun4, ho4, hb4⟩
theorem specMayA {p k : Int} {ms : List (Int × Int)} (h : termOk p ms = true) (hk : inOk p k = true) (W : Nat) (hW : W < 16) (B : Nat) (u : Value) (w : World) (hr : RdMarks w B u ms) (hB : B ≤ w.heap.size) :
    Calls Try.prog 49 #[.agg #[.int .i64 k, u], .int .i64 W] w fun e w' => e = .returned (.bool (mayT p (k, ms) W)) ∧ Below w.heap.size w w' := by
  obtain ⟨⟨h1, h4⟩, hl, t, ht, rfl⟩ := termOk_iff.1 h
  obtain ⟨h0, hkp⟩ := inOk_iff.1 hk
  obtain ⟨K, rfl⟩ := Int.eq_ofNat_of_zero_le h0
  have hm := specMay t ht h4 hl K W (by omega) hW B u w hr hB
  have e : mayT p ((K : Int), t.post) W = (W.testBit K == holds W t) := by unfold mayT; dsimp only; rw [tmOf_post ht, Int.toNat_natCast]
  rw [e]
  exact hm
attribute [local irreducible] holds tabN tabV holdsV sameV followsV alwaysV matterV claimOk mayT mayV ctabV ctabN storyV storyOk storyN storyT ctermV ctermL ansN inOk chainL chainOk chainV alikeV liesN mcells
set_option maxRecDepth 100000 in
set_option maxHeartbeats 2000000 in
theorem specAnswerIn (p k x : Int) (ms : List (Int × Int)) (B : Nat) (u : Value) (w : World) (hr : RdMarks w B u ms) (hB : B ≤ w.heap.size) :
    Calls Try.prog 15 #[.int .i64 p, .int .i64 k, u, .int .i64 x] w fun e w' => e = .returned (.int .i64 (ansN p k ms x)) ∧ Below w.heap.size w w' := by
  have hso := fun w h => specTermOk p ms B u w h
  cases ht : termOk p ms with
  | false =>
    have Hf := Lib.hid (ansN_no (p := p) (k := k) (x := x) (ms := ms) (by rw [ht]; rfl))
    rw [ht] at hso
    have Hso := Lib.hid hso; clear hso ht
    go_enter Try.func15, Try.ntmps15
    go_wp2_with fail
    refine (Hso.out _ hr).mono ?_
    rintro e w' ⟨rfl, rfl⟩
    go_wp2
    go_ret
    exact ⟨by rw [Hf.out]; rfl, Below.refl _ _⟩
  | true =>
  obtain ⟨hp1, hp4⟩ := p_of ht
  have hwp : IntKind.i64.wrap (p - 1) = p - 1 := IntWalk.i64_in _ (by omega)
  cases hx : wOk p x with
  | false =>
    have Hf := Lib.hid (ansN_no (p := p) (k := k) (x := x) (ms := ms) (by rw [hx, ht]; rfl))
    have Hx := Lib.hid hx
    rw [ht] at hso
    have Hso := Lib.hid hso; clear hso ht hx
    go_enter Try.func15, Try.ntmps15
    go_wp2_with fail
    refine (Hso.out _ hr).mono ?_
    rintro e w' ⟨rfl, rfl⟩
    go_wp2_with fail
    refine (specWorldOk _ _ _).mono ?_
    rintro e w' ⟨rfl, rfl⟩
    rw [Hx.out]
    go_wp2
    go_ret
    exact ⟨by rw [Hf.out]; rfl, Below.refl _ _⟩
  | true =>
  have Hin := Lib.hid (inOk_decide p k)
  cases hk : inOk p k with
  | false =>
    have Hf := Lib.hid (ansN_no (p := p) (k := k) (x := x) (ms := ms) (by rw [hx, ht, hk]; rfl))
    have Hx := Lib.hid hx
    rw [hk] at Hin
    rw [ht] at hso
    have Hso := Lib.hid hso; clear hso ht hx hk
    go_enter Try.func15, Try.ntmps15
    go_wp2_with fail
    refine (Hso.out _ hr).mono ?_
    rintro e w' ⟨rfl, rfl⟩
    go_wp2_with fail
    refine (specWorldOk _ _ _).mono ?_
    rintro e w' ⟨rfl, rfl⟩
    rw [Hx.out]
    go_wp2_with fail
    refine (specL1In _ _ _ false Hin _).mono ?_
    rintro e w' ⟨rfl, rfl⟩
    go_wp2
    go_ret
    exact ⟨by rw [Hf.out]; rfl, Below.refl _ _⟩
  | true =>
    obtain ⟨_, _, hx0, hx16⟩ := wOk_lt hx
    obtain ⟨X, rfl⟩ := Int.eq_ofNat_of_zero_le hx0
    have Hf := Lib.hid (ans_if ht hx hk)
    obtain ⟨ao, cap, rfl⟩ : ∃ ao cap, u = .slice ao ms.length cap := by obtain ⟨a, c, h, _⟩ := hr; exact ⟨a, c, h⟩
    have Hm := Lib.hid (fun w h => specMayA ht hk X (by omega) B (.slice ao ms.length cap) w h)
    have Hx := Lib.hid hx
    rw [Int.toNat_natCast] at Hf
    rw [hk] at Hin
    rw [ht] at hso
    have Hso := Lib.hid hso; clear hso ht hx hk
    generalize mayT p (k, ms) X = o at *
    go_enter Try.func15, Try.ntmps15
    go_wp2_with fail
    refine (Hso.out _ hr).mono ?_
    rintro e w' ⟨rfl, rfl⟩
    go_wp2_with fail
    refine (specWorldOk _ _ _).mono ?_
    rintro e w' ⟨rfl, rfl⟩
    rw [Hx.out]
    go_wp2_with fail
    refine (specL1In _ _ _ true Hin _).mono ?_
    rintro e w' ⟨rfl, rfl⟩
    go_wp2_with fail
    refine (Hm.out _ hr hB).mono ?_
    rintro e w2 ⟨rfl, hb2⟩
    have Hb2 := Lib.hid hb2; clear hb2
    cases o
    all_goals
      go_wp2
      go_ret
      exact ⟨by rw [Hf.out]; rfl, Hb2.out⟩
/-- what a call hands back that returns marks in memory of its own, and whether they are what was asked for -/
def RowOk (ms : List (Int × Int)) (o : Bool) (w : World) (e : Ending) (w' : World) : Prop := ∃ v, e = .returned (.tuple #[v, .bool o]) ∧ w'.ownsRow w.heap.size TM 2 v ms.length (mcells ms) ∧ Below w.heap.size w w'
set_option maxRecDepth 100000 in
set_option maxHeartbeats 4000000 in
theorem specTrickTerm (p k : Int) (ms : List (Int × Int)) (hk : I64 k) (hlen : ms.length ≤ 2000000) (B : Nat) (u : Value) (w : World) (hr : RdMarks w B u ms) (hB : B ≤ w.heap.size) :
    Calls Try.prog 22 #[.int .i64 p, .int .i64 k, u] w (RowOk (ctermV p (k, ms)) (claimOk p (k, ms)) w) := by
  have hi : I64s ms := by obtain ⟨_, _, _, _, _, h, _⟩ := hr; exact h
  obtain ⟨f2, g2, w2, f4, g4, w4, hrun2, hrun4, ho4, hb4⟩ := cterm_runs w B u k ms hr hB hlen
  have hr4 : RdMarks w4 w4.heap.size (.slice f4 (ms.length + 2) g4) (ctermL (k, ms)) := RdMarks.of_own ho4 (I64s_cterm7 hk hi)
  have hrB : RdMarks w4 B u ms := hr.below (w' := w4) (fun q hq => hb4.block q (by omega))
  obtain ⟨ao, cap, hu⟩ : ∃ ao cap, u = .slice ao ms.length cap := by obtain ⟨a, c, h, _⟩ := hr; exact ⟨a, c, h⟩
  subst hu
  have Hrun2 := Lib.hid hrun2
  have Hrun4 := Lib.hid hrun4
  have Hb4 := Lib.hid hb4
  have Hown4 := Lib.hid ho4
  have Hvo := Lib.hid (ctermV_of p k ms)
  have hta := fun (h : termOk p ms = true) => trick_ok (k := k) h
  have hcl2 := fun (h : claimOk p (k, ms) = true) => (claim_term h).1
  have hs1 := specTermOk p ms B (.slice ao ms.length cap) w4 hrB
  have hs2 := specTermOk p (ctermL (k, ms)) w4.heap.size (.slice f4 (ms.length + 2) g4) w4 hr4
  clear hrun2 hrun4 hb4 ho4 hr4 hrB hr
  cases ht : termOk p ms with
  | false =>
    have hcf : claimOk p (k, ms) = false := by
      cases h : claimOk p (k, ms) with
      | false => rfl
      | true => rw [hcl2 h] at ht; cases ht
    rw [ht] at hs1
    rw [hcf] at Hvo ⊢
    have Hs1 := Lib.hid hs1
    clear hs1 hs2 hta hcl2 ht hcf
    go_enter Try.func22, Try.ntmps22
    go_wp2_with (first
      | (at_builtin; refine Lib.wpList_append_run _ rfl (.tmp 11) (.tmp 12) _ _ rfl _ _ rfl rfl _ _ Hrun2.out ?_)
      | (at_builtin; refine Lib.wpList_append_run _ rfl (.tmp 14) (.tmp 16) _ _ rfl _ _ rfl rfl _ _ Hrun4.out ?_)
      | fail)
    refine Hs1.out.mono ?_
    rintro e w' ⟨rfl, rfl⟩
    go_wp2
    go_ret2
    exact ⟨_, rfl, by rw [Hvo.out, if_neg (by simp), mcells_nil7]; exact World.ownsRow_made _ _ 0 Hb4.out.size (by unfold maxLen; omega) rfl, Hb4.out.alloc Hb4.out.size _⟩
  | true =>
    rw [ht] at hs1
    rw [hta ht] at hs2
    have Hs1 := Lib.hid hs1
    have Hs2 := Lib.hid hs2
    clear hs1 hs2 hta hcl2 ht
    generalize claimOk p (k, ms) = o at *
    go_enter Try.func22, Try.ntmps22
    go_wp2_with (first
      | (at_builtin; refine Lib.wpList_append_run _ rfl (.tmp 11) (.tmp 12) _ _ rfl _ _ rfl rfl _ _ Hrun2.out ?_)
      | (at_builtin; refine Lib.wpList_append_run _ rfl (.tmp 14) (.tmp 16) _ _ rfl _ _ rfl rfl _ _ Hrun4.out ?_)
      | fail)
    refine Hs1.out.mono ?_
    rintro e w' ⟨rfl, rfl⟩
    go_wp2_with fail
    refine Hs2.out.mono ?_
    rintro e w' ⟨rfl, rfl⟩
    cases o
    · go_wp2
      go_ret2
      exact ⟨_, rfl, by rw [Hvo.out, if_neg (by simp), mcells_nil7]; exact World.ownsRow_made _ _ 0 Hb4.out.size (by unfold maxLen; omega) rfl, Hb4.out.alloc Hb4.out.size _⟩
    · go_wp2
      go_ret2
      exact ⟨_, rfl, by rw [Hvo.out]; first | (rw [if_pos rfl]; exact Hown4.out) | (rw [if_pos trivial]; exact Hown4.out), Hb4.out⟩
end Go.Proofs.Ytemldnjpcnogpaa

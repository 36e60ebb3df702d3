/- Texts of a proof, merged: MajJ, Ask, AskC, AskD, AskH. -/
import Derived.Test.YtbnickgjnglblaaMerged9
import Derived.Test.YtbnickgjnglblaaMerged10
import Derived.Test.YtbnickgjnglblaaMerged11
import Derived.Test.YtbnickgjnglblaaTruthI
/- Contracts of the program's functions of asking for a teller: the tables. -/
namespace Go.Proofs.Ytbnickgjnglblaa
open Go.RowKit Go.Joins
attribute [local irreducible] majN telB telN askN solB lv tabF heads firstN done0 costQ Good Best majV ktV askV leastV alike andK tz qV tabV ctermL mcells
set_option maxRecDepth 100000 in
set_option maxHeartbeats 2000000 in
theorem implMajority (p : Int) (w : World) :
    Calls Try.prog 8 #[.int .i64 p] w fun e w' => e = .returned (.int .i64 (majV p)) ∧ Below w.heap.size w w' := by
  have Hpo := Lib.hid (fun w => implPeopleOk p w)
  by_cases hp : 1 ≤ p ∧ p ≤ 4
  case neg =>
    have hf : pOk p = false := by unfold pOk; rw [decide_eq_false hp]
    have Hv := Lib.hid (majV_no hp)
    rw [hf] at Hpo
    clear hp hf
    go_enter Try.func8, Try.ntmps8
    go_wp2_with fail
    refine (Hpo.out _).mono ?_
    rintro e w' ⟨rfl, rfl⟩
    go_wp2
    go_ret
    exact ⟨ret_int (by rw [Hv.out]), Below.refl _ _⟩
  have hf : pOk p = true := by unfold pOk; rw [decide_eq_true hp]
  rw [hf] at Hpo
  obtain ⟨p, rfl⟩ := Int.eq_ofNat_of_zero_le (show 0 ≤ p by omega)
  have h1 : 1 ≤ p := by omega
  have h4 : p ≤ 4 := by omega
  have Hv := Lib.hid (majV_yes h1 h4)
  obtain ⟨N, hN⟩ : ∃ N, N = 2 ^ p := ⟨_, rfl⟩
  have Hcnt := Lib.hid (fun w => implWorldCount (p : Int) N (by unfold Hid; rw [hN, Int.toNat_natCast]; simp) (by omega) (by omega) w)
  have hN16 := two_16 h4 hN
  have Hd : Hid (majN p = tabF N fun w => decide (p < 2 * heads w)) := by unfold Hid majN; rw [hN]
  have Htel : Hid (∀ (k : Nat), k < N → ∀ w, Calls Try.prog 22 #[.int .i64 (p : Int), .int .i64 (k : Int)] w fun e w' => e = .returned (.int .i64 (heads k : Nat)) ∧ w = w') := fun k hk w => by
    have := implTellersIn_yes (p : Int) (k : Int) (wOk_iff.2 ⟨by omega, by omega, by omega, by rw [Int.toNat_natCast]; have : k < 2 ^ p := by omega
                                                                                               exact_mod_cast this⟩) w
    rwa [Int.toNat_natCast] at this
  have Hh : Hid (∀ k, k < N → heads k ≤ 16) := fun k hk => by have := heads_le k; omega
  clear hp hf hN
  go_enter Try.func8, Try.ntmps8
  go_wp2_with fail
  refine (Hpo.out _).mono ?_
  rintro e w' ⟨rfl, rfl⟩
  go_wp2_with fail
  refine (Hcnt.out _).mono ?_
  rintro e w' ⟨rfl, rfl⟩
  go_wp2
  go_loop [3, 4, 5, 11] (fun t _ _ i => ∃ k : Nat, k ≤ N ∧ i = .int .i64 k ∧ t = .int .i64 (tabF k (fun w => decide (p < 2 * heads w)) : Nat)) (fun _ _ _ i => N - (intOf i).toNat)
  case atStart => exact ⟨0, Nat.zero_le _, rfl, by unfold tabF; rfl⟩
  case round =>
    obtain ⟨k, hk, rfl, rfl⟩ := hrel
    by_cases hlt : k < N
    · have hs := tabF_succ k (fun w => decide (p < 2 * heads w))
      have hor := or_shlN (t := tabF k (fun w => decide (p < 2 * heads w))) (x := k) (N := N) (Nat.lt_of_lt_of_le (tabF_lt k _) (Nat.pow_le_pow_right (by decide) hk)) hN16 hlt
      rw [Nat.min_eq_left (by omega)] at hor
      have Hc := Lib.hid (Htel.out k hlt)
      have hh := Hh.out k hlt
      have Hs := Lib.hid hs
      have Hor := Lib.hid hor
      clear hs hor
      generalize tabF k (fun w => decide (p < 2 * heads w)) = T at *
      generalize heads k = h at *
      by_cases hb : p < 2 * h
      · have Hs' : Hid (tabF (k + 1) (fun w => decide (p < 2 * heads w)) = T ||| 1 <<< k) := by have := Hs.out; rwa [if_pos (decide_eq_true hb)] at this
        have hb' : (p : Int) - (h : Int) < (h : Int) := by omega
        clear Hs hb
        go_wp2_with fail
        refine (Hc.out _).mono ?_
        rintro e w' ⟨rfl, rfl⟩
        go_wp2
        go_round
        case rel => exact ⟨k + 1, by omega, by go_num, by rw [Hor.out, Hs'.out]⟩
        case measure => simp [intOf]; omega
      · have Hs' : Hid (tabF (k + 1) (fun w => decide (p < 2 * heads w)) = T) := by have := Hs.out; rwa [if_neg (by rw [decide_eq_false hb]; decide)] at this
        have hb' : ¬ (p : Int) - (h : Int) < (h : Int) := by omega
        clear Hs hb
        go_wp2_with fail
        refine (Hc.out _).mono ?_
        rintro e w' ⟨rfl, rfl⟩
        go_wp2
        go_round
        case rel => exact ⟨k + 1, by omega, by go_num, by rw [Hs'.out]⟩
        case measure => simp [intOf]; omega
    · obtain rfl : k = N := by omega
      go_wp2
      go_ret
      exact ⟨ret_int (by rw [Hv.out, Hd.out]), Below.refl _ _⟩
set_option maxRecDepth 100000 in
set_option maxHeartbeats 2000000 in
theorem implAskedTable (p t i j : Int) (s : Bool) (w : World) :
    Calls Try.prog 14 #[.int .i64 p, .int .i64 t, .int .i64 i, .int .i64 j, .bool s] w fun e w' => e = .returned (.int .i64 (askV p t i j s)) ∧ Below w.heap.size w w' := by
  have Ht := Lib.hid (fun w => implTableOk p t w)
  have Hi := Lib.hid (fun w => implPersonOk p i w)
  have Hj := Lib.hid (fun w => implPersonOk p j w)
  cases hok : tOk p t with
  | false =>
    have Hv := Lib.hid (askV_no (i := i) (j := j) (s := s) hok)
    rw [hok] at Ht
    clear hok
    go_enter Try.func14, Try.ntmps14
    go_wp2_with fail
    refine (Ht.out _).mono ?_
    rintro e w' ⟨rfl, rfl⟩
    go_wp2
    go_ret
    exact ⟨ret_int (by rw [Hv.out]), Below.refl _ _⟩
  | true =>
  by_cases hi : 0 ≤ i ∧ i < p
  case neg =>
    have Hv := Lib.hid (askV_i (t := t) (j := j) (s := s) hi)
    rw [hok] at Ht
    rw [decide_eq_false hi] at Hi
    clear hok hi
    go_enter Try.func14, Try.ntmps14
    go_wp2_with fail
    refine (Ht.out _).mono ?_
    rintro e w' ⟨rfl, rfl⟩
    go_wp2_with fail
    refine (Hi.out _).mono ?_
    rintro e w' ⟨rfl, rfl⟩
    go_wp2
    go_ret
    exact ⟨ret_int (by rw [Hv.out]), Below.refl _ _⟩
  by_cases hj : 0 ≤ j ∧ j < p
  case neg =>
    have Hv := Lib.hid (askV_j (t := t) (i := i) (s := s) hj)
    rw [hok] at Ht
    rw [decide_eq_true hi] at Hi
    rw [decide_eq_false hj] at Hj
    clear hok hi hj
    go_enter Try.func14, Try.ntmps14
    go_wp2_with fail
    refine (Ht.out _).mono ?_
    rintro e w' ⟨rfl, rfl⟩
    go_wp2_with fail
    refine (Hi.out _).mono ?_
    rintro e w' ⟨rfl, rfl⟩
    go_wp2_with fail
    refine (Hj.out _).mono ?_
    rintro e w' ⟨rfl, rfl⟩
    go_wp2
    go_ret
    exact ⟨ret_int (by rw [Hv.out]), Below.refl _ _⟩
  rw [hok] at Ht
  rw [decide_eq_true hi] at Hi
  rw [decide_eq_true hj] at Hj
  obtain ⟨P, T, rfl, rfl, h1, h4, hT, hT6⟩ := tOk_parts hok
  obtain ⟨I, rfl⟩ := Int.eq_ofNat_of_zero_le hi.1
  obtain ⟨J, rfl⟩ := Int.eq_ofNat_of_zero_le hj.1
  have hI : I < P := by omega
  have hJ : J < P := by omega
  have Hv := Lib.hid (askV_yes (s := s) hok hI hJ)
  have hy : T &&& alike P I J = askN P T I J true := ask_yes hT
  have hn : T ^^^ (T &&& alike P I J) = askN P T I J false := ask_no hT
  have hal := alike_small (i := I) (j := J) h4
  have Htab : Hid (∀ (B : Nat) (v : Value) (W : World), RdMarks W B v (ctermL ((I : Int), [(0, (J : Int))])) → B ≤ W.heap.size → Calls Try.prog 29 #[.int .i64 (P : Int), v] W fun e w' => e = .returned (.int .i64 (alike P I J : Nat)) ∧ Below W.heap.size W w') := fun B v W hr hB => by
    have := implTableOf (P : Int) (ctermL ((I : Int), [(0, (J : Int))])) B v W hr hB
    rwa [tab_alike h1 h4 hI hJ] at this
  have Hjust : Hid (∀ W : World, Calls Try.prog 30 #[.int .i64 (I : Int), .slice (some ⟨W.heap.size, 0, none⟩) 1 1] (W.alloc (.cells #[.int .i64 0, .int .i64 (J : Int)] TM)) (RowOut (ctermL ((I : Int), [(0, (J : Int))])) (W.alloc (.cells #[.int .i64 0, .int .i64 (J : Int)] TM)))) := fun W =>
    implJustIfTells (I : Int) [(0, (J : Int))] (I64_small (by omega) (by omega)) (by simp) (W.heap.size + 1) (.slice (some ⟨W.heap.size, 0, none⟩) 1 1) _ (RdMarks.one W 0 J TM (I64_small (by omega) (by omega)) (I64_small (by omega) (by omega))) (by simp)
  have Hcl : Hid (I64s (ctermL ((I : Int), [(0, (J : Int))]))) := by
    unfold ctermL
    intro m hm
    have : m = (0, (I : Int)) ∨ m = (0, (J : Int)) ∨ m = (5, 0) := by simpa using hm
    rcases this with rfl | rfl | rfl <;> exact ⟨I64_small (by omega) (by omega), I64_small (by omega) (by omega)⟩
  have hand := bits_and_nat T (alike P I J) (by omega) (by omega)
  have hnot := bits_andNot_nat T (alike P I J) (by omega) (by omega)
  rw [hy] at hand
  rw [hn] at hnot
  clear hok hi hj hy hn
  generalize alike P I J = M at *
  generalize ctermL ((I : Int), [(0, (J : Int))]) = ms at *
  cases s with
  | true =>
    generalize askN P T I J true = R at *
    clear hnot
    go_enter Try.func14, Try.ntmps14
    go_wp2_with fail
    refine (Ht.out _).mono ?_
    rintro e w' ⟨rfl, rfl⟩
    go_wp2_with fail
    refine (Hi.out _).mono ?_
    rintro e w' ⟨rfl, rfl⟩
    go_wp2_with fail
    refine (Hj.out _).mono ?_
    rintro e w' ⟨rfl, rfl⟩
    go_wp2_with fail
    refine (Hjust.out _).mono ?_
    rintro e w2 ⟨v, rfl, hown, hb2⟩
    have hb02 : Below w.heap.size w w2 := ((Below.refl _ _).alloc (Nat.le_refl _) _).trans (hb2.mono (by simp))
    have hrd := RdMarks.of_own hown Hcl.out
    have Hb02 := Lib.hid hb02
    have Hrd := Lib.hid hrd
    clear hown hb2 hb02 hrd
    go_wp2_with fail
    refine (Htab.out _ _ _ Hrd.out (Nat.le_refl _)).mono ?_
    rintro e w3 ⟨rfl, hb3⟩
    have Hb3 := Lib.hid (Hb02.out.trans (hb3.mono Hb02.out.size))
    clear hb3
    go_wp2
    go_ret
    exact ⟨ret_int (by rw [Hv.out]), Hb3.out⟩
  | false =>
    generalize askN P T I J false = R at *
    clear hand
    go_enter Try.func14, Try.ntmps14
    go_wp2_with fail
    refine (Ht.out _).mono ?_
    rintro e w' ⟨rfl, rfl⟩
    go_wp2_with fail
    refine (Hi.out _).mono ?_
    rintro e w' ⟨rfl, rfl⟩
    go_wp2_with fail
    refine (Hj.out _).mono ?_
    rintro e w' ⟨rfl, rfl⟩
    go_wp2_with fail
    refine (Hjust.out _).mono ?_
    rintro e w2 ⟨v, rfl, hown, hb2⟩
    have hb02 : Below w.heap.size w w2 := ((Below.refl _ _).alloc (Nat.le_refl _) _).trans (hb2.mono (by simp))
    have hrd := RdMarks.of_own hown Hcl.out
    have Hb02 := Lib.hid hb02
    have Hrd := Lib.hid hrd
    clear hown hb2 hb02 hrd
    go_wp2_with fail
    refine (Htab.out _ _ _ Hrd.out (Nat.le_refl _)).mono ?_
    rintro e w3 ⟨rfl, hb3⟩
    have Hb3 := Lib.hid (Hb02.out.trans (hb3.mono Hb02.out.size))
    clear hb3
    go_wp2
    go_ret
    exact ⟨ret_int (by rw [Hv.out]), Hb3.out⟩
end Go.Proofs.Ytbnickgjnglblaa
/- Contracts of the reference's questions. -/
namespace Go.Proofs.Ytbnickgjnglblaa
open Go.RowKit Go.Joins
theorem mcells_nil7 : mcells [] = [] := rfl
theorem mcells_app7 (xs ys : List (Int × Int)) : mcells (xs ++ ys) = mcells xs ++ mcells ys := mcells_append xs ys
theorem ctermL_eq (k : Int) (ms : List (Int × Int)) : ctermL (k, ms) = [(0, k)] ++ ms ++ [(5, 0)] := rfl
theorem inOk_decide (p k : Int) : inOk p k = decide (0 ≤ k ∧ k ≤ p - 1) := by unfold inOk; rw [decide_eq_decide]; omega
theorem ans_if {p k x : Int} {ms : List (Int × Int)} (h1 : termOk p ms = true) (h2 : wOk p x = true) (h3 : inOk p k = true) : ansN p k ms x = if mayT p (k, ms) x.toNat then 1 else 0 := ansN_yes h1 h2 h3
theorem ctermV_of (p k : Int) (ms : List (Int × Int)) : ctermV p (k, ms) = if claimOk p (k, ms) then ctermL (k, ms) else [] := rfl
theorem I64s_cterm7 {k : Int} {ms : List (Int × Int)} (hk : I64 k) (hi : I64s ms) : I64s (ctermL (k, ms)) := by
  have e0 : I64 0 := I64_small (by omega) (by omega)
  have e5 : I64 5 := I64_small (by omega) (by omega)
  rw [ctermL_eq]
  exact I64s_append (I64s_append (I64s_one e0 hk) hi) (I64s_one e5 e0)
theorem below_grown7 {B : Nat} {w w1 w2 : World} {row : Option Nat} (h : Below B w w1) (hg : w1.grownBy w2 row) (hB : B ≤ w1.heap.size) (hr : ∀ k, row = some k → B ≤ k) : Below B w w2 :=
  h.trans ⟨hg.os, hg.tape, hg.output, hg.size, fun i hi => hg.block i (by omega) (fun e => by have := hr i e.symm; omega)⟩
/-- a row of two marks around a term: two appends -/
theorem cterm_runs (w : World) (B : Nat) (u : Value) (k : Int) (ms : List (Int × Int)) (hr : RdMarks w B u ms) (hB : B ≤ w.heap.size) (hlen : ms.length ≤ 2000000) : ∃ (f2 : Option Addr) (g2 : Nat) (w2 : World) (f4 : Option Addr) (g4 : Nat) (w4 : World),
    (Builtin.append_ #[TS, TS] TS #[.slice (some ⟨w.heap.size, 0, none⟩) 1 1, u]).run Try.prog (w.alloc (.cells #[.int .i64 0, .int .i64 k] TM)) = .ok (.slice f2 (1 + ms.length) g2) w2 ∧
    (Builtin.append_ #[TS, TS] TS #[.slice f2 (1 + ms.length) g2, .slice (some ⟨w2.heap.size, 0, none⟩) 1 1]).run Try.prog (w2.alloc (.cells #[.int .i64 5, .int .i64 0] TM)) = .ok (.slice f4 (ms.length + 2) g4) w4 ∧
    w4.ownsRow w.heap.size TM 2 (.slice f4 (ms.length + 2) g4) (ctermL (k, ms)).length (mcells (ctermL (k, ms))) ∧ Below w.heap.size w w4 := by
  obtain ⟨im, hmi, hmz0, hmz1, hmz2⟩ := info_parts Try.infoM
  have hb1 : Below w.heap.size w (w.alloc (.cells #[.int .i64 0, .int .i64 k] TM)) := (Below.refl _ _).alloc (Nat.le_refl _) _
  have ho1 := own_new w w.heap.size 0 k (Nat.le_refl _)
  obtain ⟨v2, w2, hrun2, ho2, hg2, _⟩ := append_rd hmi hmz0 hmz1 hmz2 ho1 (hr.below (w' := w.alloc (.cells #[.int .i64 0, .int .i64 k] TM)) (fun q hq => hb1.block q (by omega))) (by omega) hb1.size
  have hb2 := below_grown7 hb1 hg2 hb1.size (fun q hq => (ho1.lt q hq).1)
  rw [← mcells_append] at ho2
  have hb3 : Below w.heap.size w (w2.alloc (.cells #[.int .i64 5, .int .i64 0] TM)) := hb2.alloc hb2.size _
  have ho3 := ho2.alloc (.cells #[.int .i64 5, .int .i64 0] TM)
  have hl3 : RdMarks (w2.alloc (.cells #[.int .i64 5, .int .i64 0] TM)) (w2.alloc (.cells #[.int .i64 5, .int .i64 0] TM)).heap.size (.slice (some ⟨w2.heap.size, 0, none⟩) 1 1) [(5, 0)] :=
    RdMarks.of_own (own_new w2 w2.heap.size 5 0 (Nat.le_refl _)) (I64s_one (I64_small (by omega) (by omega)) (I64_small (by omega) (by omega)))
  obtain ⟨v4, w4, hrun4, ho4, hg4, _⟩ := append_rd hmi hmz0 hmz1 hmz2 ho3 hl3 (by simp; omega) hb3.size
  have hb4 := below_grown7 hb3 hg4 hb3.size (fun q hq => (ho3.lt q hq).1)
  rw [← mcells_append, ← ctermL_eq] at ho4
  have hcl : (ctermL (k, ms)).length = ms.length + 2 := cterm_len2 k ms
  rw [show 1 + ms.length + [((5 : Int), (0 : Int))].length = (ctermL (k, ms)).length by rw [hcl]; simp; omega] at ho4
  obtain ⟨f2, g2, rfl⟩ := own_len ho2
  obtain ⟨f4, g4, rfl⟩ := own_len ho4
  rw [hcl] at hrun4 ho4 ⊢
  exact ⟨f2, g2, w2, f4, g4, w4, hrun2, hrun4, ho4, hb4⟩
attribute [local irreducible] holds tabN tabV holdsV sameV followsV alwaysV matterV claimOk mayT mayV ctabV ctabN storyV storyOk storyN storyT ctermV ctermL ansN inOk chainL chainOk chainV alikeV liesN mcells
/-- what a call hands back that returns marks in memory of its own, and whether they are what was asked for -/
def RowOk (ms : List (Int × Int)) (o : Bool) (w : World) (e : Ending) (w' : World) : Prop := ∃ v, e = .returned (.tuple #[v, .bool o]) ∧ w'.ownsRow w.heap.size TM 2 v ms.length (mcells ms) ∧ Below w.heap.size w w'
end Go.Proofs.Ytbnickgjnglblaa
/- Contracts of the reference's chains of questions, and of who is asked alike. -/
namespace Go.Proofs.Ytbnickgjnglblaa
open Go.RowKit Go.Joins
theorem chain_no_term {p : Int} {l : List Int} {ms : List (Int × Int)} (h : termOk p ms = false) : chainOk p l ms = false ∧ chainV p l ms = [] := by
  have e : chainOk p l ms = false := by unfold chainOk; rw [h]; rfl
  exact ⟨e, by unfold chainV; rw [e]; rfl⟩
theorem chain_long {p : Int} {l : List Int} {ms : List (Int × Int)} (h : 15 < l.length) : chainOk p l ms = false ∧ chainV p l ms = [] := by
  have e : chainOk p l ms = false := by
    unfold chainOk
    cases ht : termOk p ms with
    | false => rfl
    | true =>
      cases hc : termOk p (chainL l ms) with
      | false => rfl
      | true => have := ((chain_ok ht).1 hc).2; omega
  exact ⟨e, by unfold chainV; rw [e]; rfl⟩
theorem chain_yes {p : Int} {l : List Int} {ms : List (Int × Int)} (h : termOk p ms = true) : chainOk p l ms = termOk p (chainL l ms) ∧ chainV p l ms = if termOk p (chainL l ms) then chainL l ms else [] := by
  have e : chainOk p l ms = termOk p (chainL l ms) := by unfold chainOk; rw [h]; rfl
  exact ⟨e, by unfold chainV; rw [e]⟩
theorem chain_drop {l : List Int} {ms : List (Int × Int)} {i : Nat} (hi : i < l.length) : chainL (l.drop i) ms = ctermL (l.getD i 0, chainL (l.drop (i + 1)) ms) := by
  rw [List.drop_eq_getElem_cons hi, show l.getD i 0 = l[i] by simp [List.getD, hi]]
  rfl
theorem chain_end (l : List Int) (ms : List (Int × Int)) : chainL (l.drop l.length) ms = ms := by rw [List.drop_length]; rfl
theorem chain_I64 {ms : List (Int × Int)} (hi : I64s ms) : ∀ l : List Int, (∀ z ∈ l, I64 z) → I64s (chainL l ms) := by
  intro l
  induction l with
  | nil => intro _; exact hi
  | cons z r ih => intro h; exact I64s_cterm7 (h z (by simp)) (ih fun y hy => h y (by simp [hy]))
theorem chain_len_drop {l : List Int} {ms : List (Int × Int)} (i : Nat) : (chainL (l.drop i) ms).length = ms.length + 2 * (l.length - i) := by rw [chain_len, List.length_drop]
attribute [local irreducible] holds tabN tabV holdsV sameV followsV alwaysV matterV claimOk mayT mayV ctabV ctabN storyV storyOk storyN storyT ctermV ctermL ansN inOk chainL chainOk chainV alikeV liesN mcells
end Go.Proofs.Ytbnickgjnglblaa
/- Contract of the reference's AlikeOk. -/
namespace Go.Proofs.Ytbnickgjnglblaa
open Go.RowKit Go.Joins
attribute [local irreducible] holds tabN tabV holdsV sameV followsV alwaysV matterV claimOk mayT mayV ctabV ctabN storyV storyOk storyN storyT ctermV ctermL ansN inOk chainL chainOk chainV alikeV liesN mcells
end Go.Proofs.Ytbnickgjnglblaa
/- Contracts of the program's answers, tricks and of who is asked alike. -/
namespace Go.Proofs.Ytbnickgjnglblaa
open Go.RowKit Go.Joins
theorem ans_holds {p k x : Int} {ms : List (Int × Int)} (h1 : termOk p ms = true) (h2 : wOk p x = true) (h3 : inOk p k = true) : ansN p k ms x = if (x.toNat.testBit k.toNat == holdsV p ms x) then 1 else 0 := by
  rw [ansN_yes h1 h2 h3]
  unfold holdsV mayT
  dsimp only
  rw [h1, h2]
  rfl
theorem trick_no {p k : Int} {ms : List (Int × Int)} (h : claimOk p (k, ms) = false) : ctermV p (k, ms) = [] := by rw [ctermV_of, h]; rfl
theorem trick_yes {p k : Int} {ms : List (Int × Int)} (h : claimOk p (k, ms) = true) : ctermV p (k, ms) = ctermL (k, ms) := by rw [ctermV_of, h]; rfl
theorem ans_alike {p k x y : Int} {ms : List (Int × Int)} (h1 : termOk p ms = true) (h3 : inOk p k = true) (hx : wOk p x = true) (hy : wOk p y = true) : (ansN p k ms x = ansN p k ms y) ↔ mayT p (k, ms) x.toNat = mayT p (k, ms) y.toNat := by
  rw [ansN_yes h1 hx h3, ansN_yes h1 hy h3]
  cases mayT p (k, ms) x.toNat <;> cases mayT p (k, ms) y.toNat <;> simp
attribute [local irreducible] holds tabN tabV holdsV sameV followsV alwaysV matterV claimOk mayT mayV ctabV ctabN storyV storyOk storyN storyT ctermV ctermL ansN inOk chainL chainOk chainV alikeV liesN mcells
set_option maxRecDepth 100000 in
set_option maxHeartbeats 2000000 in
theorem implAnswerIn (p k x : Int) (ms : List (Int × Int)) (B : Nat) (u : Value) (w : World) (hr : RdMarks w B u ms) (hB : B ≤ w.heap.size) :
    Calls Try.prog 17 #[.int .i64 p, .int .i64 k, u, .int .i64 x] w fun e w' => e = .returned (.int .i64 (ansN p k ms x)) ∧ Below w.heap.size w w' := by
  have hso := fun w h hB => implTermOk p ms B u w h hB
  have hin : decide (0 ≤ k ∧ k < p) = inOk p k := by unfold inOk; rfl
  have hpo := fun w => implPersonOk p k w
  rw [hin] at hpo
  clear hin
  cases hk : inOk p k with
  | false =>
    have Hf := Lib.hid (ansN_no (p := p) (k := k) (x := x) (ms := ms) (by rw [hk]; simp))
    rw [hk] at hpo
    have Hpo := Lib.hid hpo; clear hpo hso hk hr
    go_enter Try.func17, Try.ntmps17
    go_wp2_with fail
    refine (Hpo.out _).mono ?_
    rintro e w' ⟨rfl, rfl⟩
    go_wp2
    go_ret
    exact ⟨by rw [Hf.out]; rfl, Below.refl _ _⟩
  | true =>
  rw [hk] at hpo
  have Hpo := Lib.hid hpo; clear hpo
  cases hx : wOk p x with
  | false =>
    have Hf := Lib.hid (ansN_no (p := p) (k := k) (x := x) (ms := ms) (by rw [hx]; simp))
    have Hx := Lib.hid hx
    clear hso hk hx hr
    go_enter Try.func17, Try.ntmps17
    go_wp2_with fail
    refine (Hpo.out _).mono ?_
    rintro e w' ⟨rfl, rfl⟩
    go_wp2_with fail
    refine (implWorldOk _ _ _).mono ?_
    rintro e w' ⟨rfl, rfl⟩
    rw [Hx.out]
    go_wp2
    go_ret
    exact ⟨by rw [Hf.out]; rfl, Below.refl _ _⟩
  | true =>
  cases ht : termOk p ms with
  | false =>
    have Hf := Lib.hid (ansN_no (p := p) (k := k) (x := x) (ms := ms) (by rw [ht]; rfl))
    have Hx := Lib.hid hx
    rw [ht] at hso
    have Hso := Lib.hid hso
    have Hr := Lib.hid hr
    clear hso hk hx ht hr
    go_enter Try.func17, Try.ntmps17
    go_wp2_with fail
    refine (Hpo.out _).mono ?_
    rintro e w' ⟨rfl, rfl⟩
    go_wp2_with fail
    refine (implWorldOk _ _ _).mono ?_
    rintro e w' ⟨rfl, rfl⟩
    rw [Hx.out]
    go_wp2_with fail
    refine (Hso.out _ Hr.out hB).mono ?_
    rintro e w2 ⟨rfl, hb2⟩
    have Hb2 := Lib.hid hb2; clear hb2
    go_wp2
    go_ret
    exact ⟨by rw [Hf.out]; rfl, Hb2.out⟩
  | true =>
    obtain ⟨hp1, hp4, hx0, hx16⟩ := wOk_lt hx
    obtain ⟨X, rfl⟩ := Int.eq_ofNat_of_zero_le hx0
    obtain ⟨hk0, hkp⟩ := inOk_iff.1 hk
    obtain ⟨K, rfl⟩ := Int.eq_ofNat_of_zero_le hk0
    have Hf := Lib.hid (ans_holds ht hx hk)
    rw [Int.toNat_natCast, Int.toNat_natCast] at Hf
    have Hm := Lib.hid (fun w h hB => implHoldsIn p ms X B u w h hB)
    have hmn : min K 64 = K := by omega
    have Hx := Lib.hid hx
    rw [ht] at hso
    have Hso := Lib.hid hso
    have Hr := Lib.hid hr
    generalize holdsV p ms X = o at *
    have htb : (bits BinOp.and IntKind.i64 ((X : Int) / 2 ^ K) 1 == 1) = X.testBit K := by
      cases ht : X.testBit K with
      | true => exact and_one_yes (by omega) ht
      | false => exact and_one_no (by omega) ht
    have Htb := Lib.hid htb
    clear hso hk hx ht hr htb
    obtain ⟨ao, cap, rfl⟩ : ∃ ao cap, u = .slice ao ms.length cap := by obtain ⟨a, c, h, _⟩ := Hr.out; exact ⟨a, c, h⟩
    go_enter Try.func17, Try.ntmps17
    go_wp2_with fail
    refine (Hpo.out _).mono ?_
    rintro e w' ⟨rfl, rfl⟩
    go_wp2_with fail
    refine (implWorldOk _ _ _).mono ?_
    rintro e w' ⟨rfl, rfl⟩
    rw [Hx.out]
    go_wp2_with fail
    refine (Hso.out _ Hr.out hB).mono ?_
    rintro e w2 ⟨rfl, hb2⟩
    have Hr2 := Lib.hid (Hr.out.below (w' := w2) (fun q hq => hb2.block q (by omega)))
    have hB2 : B ≤ w2.heap.size := by have := hb2.size; omega
    have Hb2 := Lib.hid hb2; clear hb2
    go_wp2_with fail
    refine (Hm.out _ Hr2.out hB2).mono ?_
    rintro e w3 ⟨rfl, hb3⟩
    have Hb3 := Lib.hid (Hb2.out.trans (hb3.mono Hb2.out.size)); clear hb3
    rw [Htb.out]
    generalize X.testBit K = tb at *
    cases tb <;> cases o
    all_goals
      go_wp2
      go_ret
      exact ⟨by rw [Hf.out]; rfl, Hb3.out⟩
end Go.Proofs.Ytbnickgjnglblaa

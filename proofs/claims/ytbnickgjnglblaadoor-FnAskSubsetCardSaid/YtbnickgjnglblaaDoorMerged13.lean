/- Texts of a proof, merged: MajJ, MajQ, MajK, LawsT, LawsU. -/
import Derived.Test.YtbnickgjnglblaaDoorMerged8
import Derived.Test.YtbnickgjnglblaaDoorMerged10
import Derived.Test.YtbnickgjnglblaaDoorMerged11
import Derived.Test.YtbnickgjnglblaaDoorTruthI
import Derived.Test.YtbnickgjnglblaaDoorMerged9
/- Contracts of the program's functions of asking for a teller: the tables. -/
namespace Go.Proofs.YtbnickgjnglblaaDoor
open Go.RowKit Go.Joins
attribute [local irreducible] majN telB telN askN solB lv tabF heads firstN done0 costQ Good Best majV ktV askV leastV alike andK tz qV tabV ctermL mcells
set_option maxRecDepth 100000 in
set_option maxHeartbeats 2000000 in
theorem implMajority (p : Int) (w : World) :
    Calls Tryd.prog 18 #[.int .i64 p] w fun e w' => e = .returned (.int .i64 (majV p)) ∧ Below w.heap.size w w' := by
  have Hpo := Lib.hid (fun w => implPeopleOk p w)
  by_cases hp : 1 ≤ p ∧ p ≤ 4
  case neg =>
    have hf : pOk p = false := by unfold pOk; rw [decide_eq_false hp]
    have Hv := Lib.hid (majV_no hp)
    rw [hf] at Hpo
    clear hp hf
    go_enter Tryd.func18, Tryd.ntmps18
    go_wp2_with fail
    refine (Hpo.out _).mono ?_
    rintro e w' ⟨rfl, rfl⟩
    go_wp2
    go_ret
    exact ⟨ret_int (by rw [Hv.out]), Below.refl _ _⟩
  have hf : pOk p = true := by unfold pOk; rw [decide_eq_true hp]
  rw [hf] at Hpo
  obtain ⟨p, rfl⟩ := Int.eq_ofNat_of_zero_le (show 0 ≤ p by omega)
  have h1 : 1 ≤ p := by omega
  have h4 : p ≤ 4 := by omega
  have Hv := Lib.hid (majV_yes h1 h4)
  obtain ⟨N, hN⟩ : ∃ N, N = 2 ^ p := ⟨_, rfl⟩
  have Hcnt := Lib.hid (fun w => implWorldCount (p : Int) N (by unfold Hid; rw [hN, Int.toNat_natCast]; simp) (by omega) (by omega) w)
  have hN16 := two_16 h4 hN
  have Hd : Hid (majN p = tabF N fun w => decide (p < 2 * heads w)) := by unfold Hid majN; rw [hN]
  have Htel : Hid (∀ (k : Nat), k < N → ∀ w, Calls Tryd.prog 32 #[.int .i64 (p : Int), .int .i64 (k : Int)] w fun e w' => e = .returned (.int .i64 (heads k : Nat)) ∧ w = w') := fun k hk w => by
    have := implTellersIn_yes (p : Int) (k : Int) (wOk_iff.2 ⟨by omega, by omega, by omega, by rw [Int.toNat_natCast]; have : k < 2 ^ p := by omega
                                                                                               exact_mod_cast this⟩) w
    rwa [Int.toNat_natCast] at this
  have Hh : Hid (∀ k, k < N → heads k ≤ 16) := fun k hk => by have := heads_le k; omega
  clear hp hf hN
  go_enter Tryd.func18, Tryd.ntmps18
  go_wp2_with fail
  refine (Hpo.out _).mono ?_
  rintro e w' ⟨rfl, rfl⟩
  go_wp2_with fail
  refine (Hcnt.out _).mono ?_
  rintro e w' ⟨rfl, rfl⟩
  go_wp2
  go_loop [3, 4, 5, 11] (fun t _ _ i => ∃ k : Nat, k ≤ N ∧ i = .int .i64 k ∧ t = .int .i64 (tabF k (fun w => decide (p < 2 * heads w)) : Nat)) (fun _ _ _ i => N - (intOf i).toNat)
  case atStart => exact ⟨0, Nat.zero_le _, rfl, by unfold tabF; rfl⟩
  case round =>
    obtain ⟨k, hk, rfl, rfl⟩ := hrel
    by_cases hlt : k < N
    · have hs := tabF_succ k (fun w => decide (p < 2 * heads w))
      have hor := or_shlN (t := tabF k (fun w => decide (p < 2 * heads w))) (x := k) (N := N) (Nat.lt_of_lt_of_le (tabF_lt k _) (Nat.pow_le_pow_right (by decide) hk)) hN16 hlt
      rw [Nat.min_eq_left (by omega)] at hor
      have Hc := Lib.hid (Htel.out k hlt)
      have hh := Hh.out k hlt
      have Hs := Lib.hid hs
      have Hor := Lib.hid hor
      clear hs hor
      generalize tabF k (fun w => decide (p < 2 * heads w)) = T at *
      generalize heads k = h at *
      by_cases hb : p < 2 * h
      · have Hs' : Hid (tabF (k + 1) (fun w => decide (p < 2 * heads w)) = T ||| 1 <<< k) := by have := Hs.out; rwa [if_pos (decide_eq_true hb)] at this
        have hb' : (p : Int) - (h : Int) < (h : Int) := by omega
        clear Hs hb
        go_wp2_with fail
        refine (Hc.out _).mono ?_
        rintro e w' ⟨rfl, rfl⟩
        go_wp2
        go_round
        case rel => exact ⟨k + 1, by omega, by go_num, by rw [Hor.out, Hs'.out]⟩
        case measure => simp [intOf]; omega
      · have Hs' : Hid (tabF (k + 1) (fun w => decide (p < 2 * heads w)) = T) := by have := Hs.out; rwa [if_neg (by rw [decide_eq_false hb]; decide)] at this
        have hb' : ¬ (p : Int) - (h : Int) < (h : Int) := by omega
        clear Hs hb
        go_wp2_with fail
        refine (Hc.out _).mono ?_
        rintro e w' ⟨rfl, rfl⟩
        go_wp2
        go_round
        case rel => exact ⟨k + 1, by omega, by go_num, by rw [Hs'.out]⟩
        case measure => simp [intOf]; omega
    · obtain rfl : k = N := by omega
      go_wp2
      go_ret
      exact ⟨ret_int (by rw [Hv.out, Hd.out]), Below.refl _ _⟩
set_option maxRecDepth 100000 in
set_option maxHeartbeats 2000000 in
theorem implAskedTable (p t i j : Int) (s : Bool) (w : World) :
    Calls Tryd.prog 41 #[.int .i64 p, .int .i64 t, .int .i64 i, .int .i64 j, .bool s] w fun e w' => e = .returned (.int .i64 (askV p t i j s)) ∧ Below w.heap.size w w' := by
  have Ht := Lib.hid (fun w => implTableOk p t w)
  have Hi := Lib.hid (fun w => implPersonOk p i w)
  have Hj := Lib.hid (fun w => implPersonOk p j w)
  cases hok : tOk p t with
  | false =>
    have Hv := Lib.hid (askV_no (i := i) (j := j) (s := s) hok)
    rw [hok] at Ht
    clear hok
    go_enter Tryd.func41, Tryd.ntmps41
    go_wp2_with fail
    refine (Ht.out _).mono ?_
    rintro e w' ⟨rfl, rfl⟩
    go_wp2
    go_ret
    exact ⟨ret_int (by rw [Hv.out]), Below.refl _ _⟩
  | true =>
  by_cases hi : 0 ≤ i ∧ i < p
  case neg =>
    have Hv := Lib.hid (askV_i (t := t) (j := j) (s := s) hi)
    rw [hok] at Ht
    rw [decide_eq_false hi] at Hi
    clear hok hi
    go_enter Tryd.func41, Tryd.ntmps41
    go_wp2_with fail
    refine (Ht.out _).mono ?_
    rintro e w' ⟨rfl, rfl⟩
    go_wp2_with fail
    refine (Hi.out _).mono ?_
    rintro e w' ⟨rfl, rfl⟩
    go_wp2
    go_ret
    exact ⟨ret_int (by rw [Hv.out]), Below.refl _ _⟩
  by_cases hj : 0 ≤ j ∧ j < p
  case neg =>
    have Hv := Lib.hid (askV_j (t := t) (i := i) (s := s) hj)
    rw [hok] at Ht
    rw [decide_eq_true hi] at Hi
    rw [decide_eq_false hj] at Hj
    clear hok hi hj
    go_enter Tryd.func41, Tryd.ntmps41
    go_wp2_with fail
    refine (Ht.out _).mono ?_
    rintro e w' ⟨rfl, rfl⟩
    go_wp2_with fail
    refine (Hi.out _).mono ?_
    rintro e w' ⟨rfl, rfl⟩
    go_wp2_with fail
    refine (Hj.out _).mono ?_
    rintro e w' ⟨rfl, rfl⟩
    go_wp2
    go_ret
    exact ⟨ret_int (by rw [Hv.out]), Below.refl _ _⟩
  rw [hok] at Ht
  rw [decide_eq_true hi] at Hi
  rw [decide_eq_true hj] at Hj
  obtain ⟨P, T, rfl, rfl, h1, h4, hT, hT6⟩ := tOk_parts hok
  obtain ⟨I, rfl⟩ := Int.eq_ofNat_of_zero_le hi.1
  obtain ⟨J, rfl⟩ := Int.eq_ofNat_of_zero_le hj.1
  have hI : I < P := by omega
  have hJ : J < P := by omega
  have Hv := Lib.hid (askV_yes (s := s) hok hI hJ)
  have hy : T &&& alike P I J = askN P T I J true := ask_yes hT
  have hn : T ^^^ (T &&& alike P I J) = askN P T I J false := ask_no hT
  have hal := alike_small (i := I) (j := J) h4
  have Htab : Hid (∀ (B : Nat) (v : Value) (W : World), RdMarks W B v (ctermL ((I : Int), [(0, (J : Int))])) → B ≤ W.heap.size → Calls Tryd.prog 47 #[.int .i64 (P : Int), v] W fun e w' => e = .returned (.int .i64 (alike P I J : Nat)) ∧ Below W.heap.size W w') := fun B v W hr hB => by
    have := implTableOf (P : Int) (ctermL ((I : Int), [(0, (J : Int))])) B v W hr hB
    rwa [tab_alike h1 h4 hI hJ] at this
  have Hjust : Hid (∀ W : World, Calls Tryd.prog 48 #[.int .i64 (I : Int), .slice (some ⟨W.heap.size, 0, none⟩) 1 1] (W.alloc (.cells #[.int .i64 0, .int .i64 (J : Int)] TM)) (RowOut (ctermL ((I : Int), [(0, (J : Int))])) (W.alloc (.cells #[.int .i64 0, .int .i64 (J : Int)] TM)))) := fun W =>
    implJustIfTells (I : Int) [(0, (J : Int))] (I64_small (by omega) (by omega)) (by simp) (W.heap.size + 1) (.slice (some ⟨W.heap.size, 0, none⟩) 1 1) _ (RdMarks.one W 0 J TM (I64_small (by omega) (by omega)) (I64_small (by omega) (by omega))) (by simp)
  have Hcl : Hid (I64s (ctermL ((I : Int), [(0, (J : Int))]))) := by
    unfold ctermL
    intro m hm
    have : m = (0, (I : Int)) ∨ m = (0, (J : Int)) ∨ m = (5, 0) := by simpa using hm
    rcases this with rfl | rfl | rfl <;> exact ⟨I64_small (by omega) (by omega), I64_small (by omega) (by omega)⟩
  have hand := bits_and_nat T (alike P I J) (by omega) (by omega)
  have hnot := bits_andNot_nat T (alike P I J) (by omega) (by omega)
  rw [hy] at hand
  rw [hn] at hnot
  clear hok hi hj hy hn
  generalize alike P I J = M at *
  generalize ctermL ((I : Int), [(0, (J : Int))]) = ms at *
  cases s with
  | true =>
    generalize askN P T I J true = R at *
    clear hnot
    go_enter Tryd.func41, Tryd.ntmps41
    go_wp2_with fail
    refine (Ht.out _).mono ?_
    rintro e w' ⟨rfl, rfl⟩
    go_wp2_with fail
    refine (Hi.out _).mono ?_
    rintro e w' ⟨rfl, rfl⟩
    go_wp2_with fail
    refine (Hj.out _).mono ?_
    rintro e w' ⟨rfl, rfl⟩
    go_wp2_with fail
    refine (Hjust.out _).mono ?_
    rintro e w2 ⟨v, rfl, hown, hb2⟩
    have hb02 : Below w.heap.size w w2 := ((Below.refl _ _).alloc (Nat.le_refl _) _).trans (hb2.mono (by simp))
    have hrd := RdMarks.of_own hown Hcl.out
    have Hb02 := Lib.hid hb02
    have Hrd := Lib.hid hrd
    clear hown hb2 hb02 hrd
    go_wp2_with fail
    refine (Htab.out _ _ _ Hrd.out (Nat.le_refl _)).mono ?_
    rintro e w3 ⟨rfl, hb3⟩
    have Hb3 := Lib.hid (Hb02.out.trans (hb3.mono Hb02.out.size))
    clear hb3
    go_wp2
    go_ret
    exact ⟨ret_int (by rw [Hv.out]), Hb3.out⟩
  | false =>
    generalize askN P T I J false = R at *
    clear hand
    go_enter Tryd.func41, Tryd.ntmps41
    go_wp2_with fail
    refine (Ht.out _).mono ?_
    rintro e w' ⟨rfl, rfl⟩
    go_wp2_with fail
    refine (Hi.out _).mono ?_
    rintro e w' ⟨rfl, rfl⟩
    go_wp2_with fail
    refine (Hj.out _).mono ?_
    rintro e w' ⟨rfl, rfl⟩
    go_wp2_with fail
    refine (Hjust.out _).mono ?_
    rintro e w2 ⟨v, rfl, hown, hb2⟩
    have hb02 : Below w.heap.size w w2 := ((Below.refl _ _).alloc (Nat.le_refl _) _).trans (hb2.mono (by simp))
    have hrd := RdMarks.of_own hown Hcl.out
    have Hb02 := Lib.hid hb02
    have Hrd := Lib.hid hrd
    clear hown hb2 hb02 hrd
    go_wp2_with fail
    refine (Htab.out _ _ _ Hrd.out (Nat.le_refl _)).mono ?_
    rintro e w3 ⟨rfl, hb3⟩
    have Hb3 := Lib.hid (Hb02.out.trans (hb3.mono Hb02.out.size))
    clear hb3
    go_wp2
    go_ret
    exact ⟨ret_int (by rw [Hv.out]), Hb3.out⟩
end Go.Proofs.YtbnickgjnglblaaDoor
/- Contract of the program's questionsFor: a row of the tables in which two people are of the same kind, for all pairs. -/
namespace Go.Proofs.YtbnickgjnglblaaDoor
open Go.RowKit Go.Joins
attribute [local irreducible] majN telB telN askN solB lv tabF heads firstN done0 costQ Good Best majV ktV askV leastV alike andK tz qV prs qsL qsK
theorem qsK_app (p m k : Nat) : vals (qsK p m (k + 1)) = vals (qsK p m k) ++ [.int .i64 (alike p k m : Nat)] ∧ (qsK p m (k + 1)).length = (qsK p m k).length + 1 := by
  rw [qsK_succ]
  exact ⟨by simp [vals], by simp⟩
theorem ask_allV {p i j : Nat} (h1 : 1 ≤ p) (h4 : p ≤ 4) (hi : i < p) (hj : j < p) : askV (p : Int) (allV (p : Int)) (i : Int) (j : Int) true = (alike p i j : Int) := by
  have hal : allV (p : Int) = ((2 ^ 2 ^ p - 1 : Nat) : Int) := by unfold allV; rw [Int.toNat_natCast]
  have hpos : 0 < 2 ^ 2 ^ p := Nat.pow_pos (by decide)
  rw [hal, askV_yes (tOk_nat h1 h4 (by omega)) hi hj, ask_all]
set_option maxRecDepth 100000 in
set_option maxHeartbeats 2000000 in
theorem implQuestionsFor (p : Nat) (h1 : 1 ≤ p) (h4 : p ≤ 4) (w : World) :
    Calls Tryd.prog 29 #[.int .i64 p] w fun e w' => ∃ v, e = .returned v ∧ w'.ownsRow w.heap.size 3 1 v (qsL p (prs p)).length (vals (qsL p (prs p))) ∧ Below w.heap.size w w' := by
  obtain ⟨i0, hi, hz0, hz1, hz2⟩ := info_parts Tryd.info3
  have Hall := Lib.hid (fun w => implAllWorlds (p : Int) (by omega) (by omega) w)
  have Hask : Hid (∀ i j, i < p → j < p → ∀ w, Calls Tryd.prog 41 #[.int .i64 (p : Int), .int .i64 (allV (p : Int)), .int .i64 (i : Int), .int .i64 (j : Int), .bool true] w fun e w' => e = .returned (.int .i64 (alike p i j : Nat)) ∧ Below w.heap.size w w') := fun i j hi hj w => by
    have := implAskedTable (p : Int) (allV (p : Int)) (i : Int) (j : Int) true w
    rwa [ask_allV h1 h4 hi hj] at this
  have Hlen : Hid (∀ m k, m ≤ 4 → k ≤ m → (qsK p m k).length ≤ 10) := fun m k hm hk => qsK_len hm hk
  have Hz : Hid (∀ m, qsK p m 0 = qsL p (prs m)) := fun m => qsK_zero p m
  have Hf : Hid (∀ m, qsK p m m = qsL p (prs (m + 1))) := fun m => qsK_full p m
  have Happ : Hid (∀ m k, vals (qsK p m (k + 1)) = vals (qsK p m k) ++ [.int .i64 (alike p k m : Nat)] ∧ (qsK p m (k + 1)).length = (qsK p m k).length + 1) := fun m k => qsK_app p m k
  have H0 : Hid (qsL p (prs 0) = []) := by unfold Hid qsL prs; rfl
  generalize allV (p : Int) = all at *
  have Hi := Lib.hid hi; clear hi
  have Hz0 := Lib.hid hz0; clear hz0
  have Hz1 := Lib.hid hz1; clear hz1
  have Hz2 := Lib.hid hz2; clear hz2
  obtain ⟨wo, rfl⟩ : ∃ wo : World, wo = w := ⟨_, rfl⟩
  go_enter Tryd.func29, Tryd.ntmps29
  go_wp2
  go_loopw [3, 4, 5, 7] (fun v _ _ i wr => ∃ m : Nat, m ≤ p ∧ i = .int .i64 m ∧ wr.ownsRow wo.heap.size 3 1 v (qsL p (prs m)).length (vals (qsL p (prs m))) ∧ Below wo.heap.size wo wr)
    (fun _ _ _ i _ => p - (intOf i).toNat)
  case atStart => exact ⟨0, Nat.zero_le _, rfl, by rw [H0.out]; exact World.ownsRow_nil _ _ _ _, Below.refl _ _⟩
  case round =>
    obtain ⟨m, hm, rfl, hown, hbel⟩ := hrel
    by_cases hlt : m < p
    · rw [← Hz.out m] at hown
      have Hown := Lib.hid hown
      have Hbel := Lib.hid hbel
      clear hown hbel
      go_wp2
      go_loopw [3, 5, 11] (fun v _ i wr => ∃ k : Nat, k ≤ m ∧ i = .int .i64 k ∧ wr.ownsRow wo.heap.size 3 1 v (qsK p m k).length (vals (qsK p m k)) ∧ Below wo.heap.size wo wr)
        (fun _ _ i _ => m - (intOf i).toNat)
      case atStart => exact ⟨0, Nat.zero_le _, rfl, Hown.out, Hbel.out⟩
      case round =>
        obtain ⟨k, hk, rfl, hown, hbel⟩ := hrel
        clear Hown Hbel
        by_cases hltk : k < m
        · have Hc := Lib.hid (Hask.out k m (by omega) hlt)
          have hln := Hlen.out m k (by omega) hk
          have Hap := Lib.hid (Happ.out m k)
          generalize alike p k m = x at *
          go_wp2_with fail
          refine (Hall.out _).mono ?_
          rintro e w' ⟨rfl, rfl⟩
          go_wp2_with fail
          refine (Hc.out _).mono ?_
          rintro e w2 ⟨rfl, hb2⟩
          have hown2 := own_below hown hb2
          have hbel2 : Below wo.heap.size wo w2 := hbel.trans (hb2.mono hbel.size)
          clear hown hbel hb2
          go_wp2_with (at_builtin; refine wpList_append_own _ rfl _ _ 26 rfl wo.heap.size 3 i0 (.int .i64 0) 1 8 Tryd.underlying26 Hi.out Hz0.out Hz1.out Hz2.out rfl (by decide) _ _ _ rfl (hown2.alloc _) ⟨w2.heap.size, 0, none⟩ 1 1 [.int .i64 x] rfl rfl ?c1 ?c2 ?c3 ?c4 ?c5 ?_)
          case c1 => exact (cell_one_new _ _ _)
          case c2 => simp [Value.oneCell']
          case c3 => unfold maxLen; omega
          case c4 => omega
          case c5 => have := hbel2.size; simp; omega
          intro v' w3 hown' hgrow _
          have hb3 : Below wo.heap.size wo w3 := (hbel2.alloc hbel2.size _).grown hgrow (by simp; have := hbel2.size; omega) (fun k hk => (hown2.lt k hk).1)
          have ho3 : w3.ownsRow wo.heap.size 3 1 v' (qsK p m (k+1)).length (vals (qsK p m (k+1))) := by
            rw [Hap.out.1, Hap.out.2]; exact hown'
          clear hown' hgrow hown2 hbel2
          go_wp2
          go_roundw
          case rel => exact ⟨k + 1, by omega, by go_num, ho3, hb3⟩
          case measure => simp [intOf]; omega
        · obtain rfl : k = m := by omega
          rw [Hf.out k] at hown
          have Hown := Lib.hid hown
          have Hbel := Lib.hid hbel
          clear hown hbel
          go_wp2
          go_roundw
          case rel => exact ⟨k + 1, by omega, by go_num, Hown.out, Hbel.out⟩
          case measure => simp [intOf]; omega
    · obtain rfl : m = p := by omega
      have Hown := Lib.hid hown
      have Hbel := Lib.hid hbel
      clear hown hbel
      obtain ⟨ao, cp, hv⟩ : ∃ ao cp, u3 = .slice ao (qsL m (prs m)).length cp := by
        rcases Hown.out.2 with ⟨rfl, h⟩ | ⟨g, cap, cur, rfl, _⟩
        · exact ⟨_, _, by rw [h]⟩
        · exact ⟨_, _, rfl⟩
      go_wp2
      go_ret
      exact ⟨_, rfl, Hown.out, Hbel.out⟩
end Go.Proofs.YtbnickgjnglblaaDoor
/- Contract of the program's KnownTeller: the fold of all worlds of a table, and its lowest bit. -/
namespace Go.Proofs.YtbnickgjnglblaaDoor
open Go.RowKit Go.Joins
attribute [local irreducible] majN telB telN askN solB lv tabF heads firstN done0 costQ Good Best majV ktV askV leastV alike andK tz qV wl
set_option maxRecDepth 100000 in
set_option maxHeartbeats 2000000 in
theorem implKnownTeller (p t : Int) (w : World) (hz : Hid (TabZ w)) :
    Calls Tryd.prog 9 #[.int .i64 p, .int .i64 t] w fun e w' => e = .returned (.int .i64 (ktV p t)) ∧ Below w.heap.size w w' := by
  have Hwi := Lib.hid (implWorldsIn p t w)
  by_cases hl : (wlp p t).length = 0
  case pos =>
    have Hv : Hid (ktV p t = -1) := by
      unfold Hid
      cases hok : tOk p t with
      | false => exact ktV_no hok
      | true =>
        obtain ⟨P, T, rfl, rfl, h1, h4, hT, hT6⟩ := tOk_parts hok
        rw [wlp_yes hok, Int.toNat_natCast, Int.toNat_natCast] at hl
        rw [wl_none hT hl]; exact ktV_zero _
    rw [List.eq_nil_of_length_eq_zero hl] at Hwi
    clear hl
    go_enter Tryd.func9, Tryd.ntmps9
    go_wp2_with fail
    refine (Hwi.out).mono ?_
    rintro e w1 ⟨v, rfl, hown, hb1⟩
    obtain ⟨ao, cp, hv⟩ : ∃ ao cp, v = .slice ao 0 cp := by
      rcases hown.2 with ⟨rfl, _⟩ | ⟨g, cap, cur, rfl, _⟩
      · exact ⟨_, _, rfl⟩
      · exact ⟨_, _, rfl⟩
    subst hv
    have Hb1 := Lib.hid hb1
    clear hown hb1 Hwi
    go_wp2
    go_ret
    exact ⟨ret_int (by rw [Hv.out]), Hb1.out⟩
  have hok : tOk p t = true := by
    cases hok : tOk p t with
    | true => rfl
    | false => rw [wlp_no hok] at hl; exact absurd rfl hl
  obtain ⟨P, T, rfl, rfl, h1, h4, hT, hT6⟩ := tOk_parts hok
  have hwl : wlp (P : Int) (T : Int) = wl T (2 ^ P) := by rw [wlp_yes hok, Int.toNat_natCast, Int.toNat_natCast]
  rw [hwl] at Hwi hl
  have h0 : T ≠ 0 := by
    rintro rfl
    exact hl (by rw [show wl 0 (2 ^ P) = [] from List.eq_nil_iff_forall_not_mem.2 fun z hz => by have := (wl_mem.1 hz).2; simp at this]; rfl)
  have hkv := ktV_yes hok h0
  have hp16 : 2 ^ P ≤ 16 := (Nat.pow_le_pow_right (by decide) h4 : 2 ^ P ≤ 2 ^ 4)
  have Hzero := Lib.hid (fun hA => telN_zero (p := P) (T := T) hl hA)
  have Htz := Lib.hid (fun hA => telN_tz (p := P) (T := T) h4 hl hA)
  rw [← hkv] at Hzero Htz
  have Hsm : Hid (∀ k, andK (wl T (2 ^ P)) k < 16) := fun k => Nat.lt_of_lt_of_le (andK_small hp16 k hl) hp16
  have Hel : Hid (∀ j, j < (wl T (2 ^ P)).length → (wl T (2 ^ P)).getD j 0 < 16) := fun j hj => Nat.lt_of_lt_of_le (wl_at hj).1 hp16
  have Hsucc : Hid (∀ k, k < (wl T (2 ^ P)).length → andK (wl T (2 ^ P)) (k + 1) = andK (wl T (2 ^ P)) k &&& (wl T (2 ^ P)).getD k 0) := fun k hk => andK_succ hk
  have H0 := Lib.hid (andK_zero (wl T (2 ^ P)))
  have hl16 : (wl T (2 ^ P)).length ≤ 16 := Nat.le_trans (wl_le _ _) hp16
  clear hwl hkv h0 hT hok
  generalize ktV (P : Int) (T : Int) = kv at *
  generalize wl T (2 ^ P) = l at *
  generalize hL : l.length = L at *
  have HL := Lib.hid hL
  have hL0 : 0 < L := Nat.pos_of_ne_zero hl
  clear hL hl
  go_enter Tryd.func9, Tryd.ntmps9
  go_wp2_with fail
  refine (Hwi.out).mono ?_
  rintro e w1 ⟨v, rfl, hown, hb1⟩
  obtain ⟨g, c, hv⟩ := ownsRow_form hown (by omega)
  subst hv
  have hcap := own_cap hown
  unfold maxLen at hcap
  have Hcell : Hid (∀ j, j < L → w1.cell? ⟨g, j, none⟩ = some (.int .i64 (l.getD j 0 : Nat))) := fun j hj => by
    have h1 := hown.cellAt j (by omega)
    rw [h1]
    unfold vals
    rw [List.getElem?_map, List.getElem?_eq_getElem (by rw [HL.out]; exact hj)]
    simp [List.getD, HL.out, hj]
  have Hz1 := Lib.hid (hz.out.below hb1)
  have Hb1 := Lib.hid hb1
  clear hown hb1 Hwi hz
  have hc0 := Hcell.out 0 hL0
  have hx0 : l.getD 0 0 = andK l 0 := H0.out.symm
  rw [hx0] at hc0
  clear hx0
  have hLi : ((L : Int) == 0) = false := by rw [beq_eq_false_iff_ne]; omega
  go_wp2
  go_loop [6, 8, 20] (fun a _ i => ∃ k : Nat, k ≤ L ∧ i = .int .i64 k ∧ a = .int .i64 (andK l k : Nat)) (fun _ _ i => L - (intOf i).toNat)
  case atStart => exact ⟨0, Nat.zero_le _, rfl, rfl⟩
  case round =>
    obtain ⟨k, hk, rfl, rfl⟩ := hrel
    by_cases hlt : k < L
    · have hc := Hcell.out k hlt
      have hs := Hsucc.out k hlt
      have h1 := Hsm.out k
      have h2 := Hel.out k hlt
      have hand := bits_and_nat (andK l k) (l.getD k 0) (by omega) (by omega)
      rw [← hs] at hand
      have h3 := Hsm.out (k + 1)
      have Hand := Lib.hid hand
      clear hs hc0 hand
      generalize l.getD k 0 = x at *
      generalize hA' : andK l (k + 1) = A' at *
      have HA' := Lib.hid hA'
      clear hA'
      generalize andK l k = A at *
      go_wp2
      go_round
      case rel => exact ⟨k + 1, by omega, by go_num, by rw [HA'.out, Hand.out]⟩
      case measure => simp [intOf]; omega
    · obtain rfl : k = L := Nat.le_antisymm hk (Nat.le_of_not_lt hlt)
      have hA := Hsm.out k
      clear hc0 Hsucc Hel Hcell
      by_cases h0 : andK l k = 0
      · have Hr := Lib.hid (Hzero.out h0)
        rw [h0]
        clear Htz
        go_wp2
        go_ret
        exact ⟨ret_int (by rw [Hr.out]), Hb1.out⟩
      · have Hr := Lib.hid (Htz.out h0)
        have htz := tz_lt (andK l k)
        have Htr := Lib.hid (fun w => trail (andK l k) h0 hA w)
        clear Hzero Htz
        generalize andK l k = A at *
        generalize tz A = z at *
        have hA0 : ((A : Int) == 0) = false := by rw [beq_eq_false_iff_ne]; omega
        go_wp2_with fail
        refine (Htr.out _ Hz1).mono ?_
        rintro e w' ⟨rfl, rfl⟩
        go_wp2
        go_ret
        exact ⟨ret_int (by rw [Hr.out]), Hb1.out⟩
end Go.Proofs.YtbnickgjnglblaaDoor
/- The first laws of chapter 1: tables. Each answers true, whatever the code. No condition. -/
namespace Go.Proofs.YtbnickgjnglblaaDoor
open Go.RowKit
attribute [local irreducible] heads turned tabOf wl




/-! ### facts of listed tables -/
theorem nums_getD {l : List Nat} {j : Nat} (hj : j < l.length) : (nums l).getD j 0 = ((l[j] : Nat) : Int) := by simp [nums, List.getD, hj]
theorem wl_asc (T n : Nat) : ∀ j, j + 1 < (nums (wl T n)).length → (nums (wl T n)).getD j 0 < (nums (wl T n)).getD (j + 1) 0 := by
  intro j hj
  rw [nums_length] at hj
  rw [nums_getD (show j < (wl T n).length by omega), nums_getD hj]
  have hp : (wl T n).Pairwise (· < ·) := by unfold wl; exact List.Pairwise.filter _ List.pairwise_lt_range
  have := List.pairwise_iff_getElem.1 hp j (j + 1) (by omega) hj (by omega)
  omega
theorem wl_wOk {p : Int} {T N : Nat} (h1 : 1 ≤ p) (h2 : p ≤ 4) (hN : (N : Int) = 2 ^ p.toNat) : ∀ j, j < (nums (wl T N)).length → wOk p ((nums (wl T N)).getD j 0) = true := by
  intro j hj
  rw [nums_length] at hj
  rw [nums_getD hj]
  have := (wl_mem.1 (List.getElem_mem hj)).1
  exact wOk_of h1 h2 hN (by omega) (by omega)
theorem nums_toNat (l : List Nat) : (nums l).map Int.toNat = l := by
  induction l with
  | nil => rfl
  | cons a r ih => simp only [nums, List.map_cons, List.map_map] at ih ⊢; simp [Function.comp_def]
theorem tow_wl {p : Int} {T N : Nat} (h1 : 1 ≤ p) (h2 : p ≤ 4) (hN : (N : Int) = 2 ^ p.toNat) (hT : T < 2 ^ N) : tow p (nums (wl T N)) = (T : Int) := by
  rw [tow_yes (by simp [pOk]; omega) (wl_wOk h1 h2 hN), nums_toNat, tabOf_wl hT]
theorem tOk_ltN {p : Int} {T N : Nat} (h : tOk p T = true) (hN : (N : Int) = 2 ^ p.toNat) : T < 2 ^ N := by
  obtain ⟨h1, h2, h3, h4⟩ := tOk_iff.1 h
  have hNN : N = 2 ^ p.toNat := by have : ((2 ^ p.toNat : Nat) : Int) = 2 ^ p.toNat := by simp
                                   omega
  subst hNN
  exact_mod_cast h4
end Go.Proofs.YtbnickgjnglblaaDoor
/- Chapter 1's law of opposite tables. It answers true, whatever the code. No condition. -/
namespace Go.Proofs.YtbnickgjnglblaaDoor
open Go.RowKit

theorem count_rev (f : Nat → Bool) : ∀ n, ((List.range n).filter fun i => f (n - 1 - i)).length = ((List.range n).filter f).length := by
  intro n
  induction n with
  | zero => rfl
  | succ n ih =>
    have h1 : ((List.range (n + 1)).filter fun i => f (n + 1 - 1 - i)).length = (if f n = true then 1 else 0) + ((List.range n).filter fun i => f (n - 1 - i)).length := by
      rw [List.range_succ_eq_map, List.filter_cons, List.filter_map]
      have e : ((fun i => f (n + 1 - 1 - i)) ∘ Nat.succ) = fun i => f (n - 1 - i) := by
        funext i; show f (n + 1 - 1 - (i + 1)) = _; congr 1; omega
      rw [e, show n + 1 - 1 - 0 = n from by omega]
      split
      · rw [List.length_cons, List.length_map]; omega
      · rw [List.length_map]; omega
    have h2 : ((List.range (n + 1)).filter f).length = ((List.range n).filter f).length + (if f n = true then 1 else 0) := by
      rw [List.range_succ, List.filter_append, List.length_append]
      by_cases h : f n = true
      · simp [h]
      · simp [h]
    rw [h1, h2, ih]; omega
theorem turned_bit {T N j : Nat} (hj : j < N) : (turned T N N).testBit j = T.testBit (N - 1 - j) := by
  unfold turned
  rw [tabOf_bit, Bool.eq_iff_iff]
  simp only [decide_eq_true_eq, List.mem_map, wl_mem]
  constructor
  · rintro ⟨i, ⟨hi, hb⟩, rfl⟩
    rwa [show N - 1 - (N - 1 - i) = i from by omega]
  · intro h
    exact ⟨N - 1 - j, ⟨by omega, h⟩, by omega⟩
theorem turned_turned {T N : Nat} (hT : T < 2 ^ N) (hN : 0 < N) : turned (turned T N N) N N = T := by
  refine bit_ext (turned_lt (Nat.le_refl _) hN) hT fun j hj => ?_
  rw [turned_bit hj, turned_bit (by omega)]
  rw [show N - 1 - (N - 1 - j) = j from by omega]
theorem turned_len (T N : Nat) : (wl (turned T N N) N).length = (wl T N).length := by
  unfold wl
  rw [← count_rev (fun i => T.testBit i) N]
  congr 1
  refine List.filter_congr fun i hi => ?_
  exact turned_bit (by simpa using hi)
theorem opp_mem {T N i : Nat} (hi : i ∈ wl T N) : N - 1 - i ∈ wl (turned T N N) N := by
  obtain ⟨h1, h2⟩ := wl_mem.1 hi
  refine wl_mem.2 ⟨by omega, ?_⟩
  rw [turned_bit (by omega), show N - 1 - (N - 1 - i) = i from by omega]
  exact h2
theorem N_eq {p : Int} {N : Nat} (hN : (N : Int) = 2 ^ p.toNat) : N = 2 ^ p.toNat := by
  have : ((2 ^ p.toNat : Nat) : Int) = 2 ^ p.toNat := by simp
  omega
theorem tOk_of {p : Int} {T N : Nat} (h1 : 1 ≤ p) (h2 : p ≤ 4) (hN : (N : Int) = 2 ^ p.toNat) (hT : T < 2 ^ N) : tOk p T = true := by
  refine tOk_iff.2 ⟨h1, h2, by omega, ?_⟩
  rw [N_eq hN] at hT
  exact_mod_cast hT
end Go.Proofs.YtbnickgjnglblaaDoor

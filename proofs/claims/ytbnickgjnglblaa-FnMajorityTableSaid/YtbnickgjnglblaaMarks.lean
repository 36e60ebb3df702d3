/- Contracts over rows of marks: the program's and the reference model's test of a term, and what the exact laws do with rows. -/
import Derived.Test.YtbnickgjnglblaaMerged4
import Derived.Test.YtbnickgjnglblaaPeople
import Derived.OwnWalk
namespace Go.Proofs.Ytbnickgjnglblaa
open Go.RowKit

def mkv (m : Int × Int) : Value := .agg #[.int .i64 m.1, .int .i64 m.2]
def taken (k : Int) : Int := if k = 2 then 1 else if 3 ≤ k ∧ k ≤ 5 then 2 else 0
def mkOk (p k x : Int) : Bool := decide ((k = 0 ∧ 0 ≤ x ∧ x < p) ∨ (k = 1 ∧ 0 ≤ x ∧ x ≤ p + 1) ∨ (2 ≤ k ∧ k ≤ 5 ∧ x = 0))
theorem kind_cases {k : Int} (h : 0 ≤ k ∧ k ≤ 5) : k = 0 ∨ k = 1 ∨ k = 2 ∨ k = 3 ∨ k = 4 ∨ k = 5 := by omega
theorem neq_facts {k : Int} (h : ¬ (0 ≤ k ∧ k ≤ 5)) : (k == 0) = false ∧ (k == 1) = false ∧ (k == 2) = false ∧ (k == 3) = false ∧ (k == 4) = false ∧ (k == 5) = false := by
  refine ⟨?_, ?_, ?_, ?_, ?_, ?_⟩ <;> (rw [beq_eq_false_iff_ne]; omega)

theorem taken_no {k : Int} (h : ¬ (0 ≤ k ∧ k ≤ 5)) : taken k = 0 := by unfold taken; rw [if_neg (by omega), if_neg (by omega)]
set_option maxHeartbeats 400000 in
theorem implPartsTaken (k : Int) (w : World) :
    Calls Try.prog 39 #[.int .i64 k] w fun e w' => e = .returned (.int .i64 (taken k)) ∧ w = w' := by
  by_cases h : 0 ≤ k ∧ k ≤ 5
  · rcases kind_cases h with rfl | rfl | rfl | rfl | rfl | rfl
    all_goals
      clear h
      go_enter Try.func39, Try.ntmps39
      go_wp2
      go_ret
      exact ⟨rfl, rfl⟩
  · obtain ⟨h0, h1, h2, h3, h4, h5⟩ := neq_facts h
    have ht := Lib.hid (taken_no h)
    clear h
    go_enter Try.func39, Try.ntmps39
    go_wp2
    go_ret
    exact ⟨by rw [ht.out]; rfl, rfl⟩

theorem mkOk_no {p k x : Int} (h : ¬ (0 ≤ k ∧ k ≤ 5)) : mkOk p k x = false := by unfold mkOk; rw [decide_eq_false_iff_not]; omega
set_option maxHeartbeats 400000 in
theorem implMarkOk (p k x : Int) (hp1 : 1 ≤ p) (hp4 : p ≤ 4) (w : World) :
    Calls Try.prog 40 #[.int .i64 p, .agg #[.int .i64 k, .int .i64 x]] w fun e w' => e = .returned (.bool (mkOk p k x)) ∧ Below w.heap.size w w' := by
  by_cases h : 0 ≤ k ∧ k ≤ 5
  · rcases kind_cases h with rfl | rfl | rfl | rfl | rfl | rfl
    case inl =>
      clear h
      go_enter Try.func40, Try.ntmps40
      go_wp2_with fail
      refine (implPersonOk _ _ _).mono ?_
      rintro e w' ⟨rfl, rfl⟩
      go_wp2
      go_ret
      exact ⟨ret_bool (by rw [Bool.eq_iff_iff]; simp [mkOk]), (Below.refl _ _).alloc (Nat.le_refl _) _⟩
    all_goals
      clear h
      go_enter Try.func40, Try.ntmps40
      go_wp2
      all_goals
        go_ret
        refine ⟨ret_bool ?_, (Below.refl _ _).alloc (Nat.le_refl _) _⟩
        first
        | (rw [Bool.eq_iff_iff]; simp [mkOk]; done)
        | (rw [Bool.eq_iff_iff]; simp [mkOk]; omega)
  · obtain ⟨h0, h1, h2, h3, h4, h5⟩ := neq_facts h
    have ht := Lib.hid (mkOk_no (p := p) (x := x) h)
    clear h
    go_enter Try.func40, Try.ntmps40
    go_wp2
    go_ret
    exact ⟨ret_bool ht.out.symm, (Below.refl _ _).alloc (Nat.le_refl _) _⟩

/-! ### one mark and the parts before it -/
theorem taken2 : taken 2 = 1 := rfl
theorem taken35 {k : Int} (h : 3 ≤ k ∧ k ≤ 5) : taken k = 2 := by unfold taken; rw [if_neg (by omega), if_pos h]
theorem taken_else {k : Int} (h2 : k ≠ 2) (h : ¬ (3 ≤ k ∧ k ≤ 5)) : taken k = 0 := by unfold taken; rw [if_neg h2, if_neg h]
theorem stepS35 {p : Int} {s : List Tm} {k : Int} (h : 3 ≤ k ∧ k ≤ 5) (x : Int) : stepS p s (k, x) = (if x = 0 then (match s with | b :: a :: r => some (.bin k a b :: r) | _ => none) else none) := by
  unfold stepS
  dsimp only
  rw [if_neg (by omega), if_neg (by omega), if_neg (by omega), if_pos h]
  rfl
theorem step_yes {p : Int} {s : List Tm} {m : Int × Int} (h : mkOk p m.1 m.2 = true) (hl : taken m.1 ≤ s.length) : ∃ s', stepS p s m = some s' ∧ (s'.length : Int) = s.length + (1 - taken m.1) := by
  obtain ⟨k, x⟩ := m
  dsimp only at h hl ⊢
  unfold mkOk at h
  rw [decide_eq_true_eq] at h
  rcases h with ⟨rfl, h1, h2⟩ | ⟨rfl, h1, h2⟩ | ⟨h1, h2, rfl⟩
  · exact ⟨.leaf 0 x :: s, by simp [stepS, h1, h2], by simp [taken]⟩
  · exact ⟨.leaf 1 x :: s, by simp [stepS, h1, h2], by simp [taken]⟩
  · by_cases h3 : k = 2
    · subst h3
      match s with
      | [] => rw [taken2] at hl; simp at hl
      | t :: r => exact ⟨.un t :: r, rfl, by rw [taken2]; simp⟩
    · have h35 : 3 ≤ k ∧ k ≤ 5 := by omega
      rw [taken35 h35] at hl ⊢
      rw [stepS35 h35, if_pos rfl]
      match s with
      | [] => simp at hl
      | [a] => simp at hl
      | b :: a :: r => exact ⟨.bin k a b :: r, rfl, by simp; omega⟩
theorem step_no1 {p : Int} {s : List Tm} {m : Int × Int} (h : mkOk p m.1 m.2 = false) : stepS p s m = none := by
  obtain ⟨k, x⟩ := m
  dsimp only at h
  unfold mkOk at h
  rw [decide_eq_false_iff_not] at h
  by_cases h3 : 3 ≤ k ∧ k ≤ 5
  · rw [stepS35 h3, if_neg (by omega)]
  unfold stepS
  dsimp only
  by_cases h0 : k = 0
  · rw [if_pos h0, if_neg (by omega)]
  · by_cases h1 : k = 1
    · rw [if_neg h0, if_pos h1, if_neg (by omega)]
    · by_cases h2 : k = 2
      · rw [if_neg h0, if_neg h1, if_pos h2, if_neg (by omega)]
      · rw [if_neg h0, if_neg h1, if_neg h2, if_neg h3]
theorem step_no2 {p : Int} {s : List Tm} {m : Int × Int} (hl : ¬ taken m.1 ≤ s.length) : stepS p s m = none := by
  obtain ⟨k, x⟩ := m
  dsimp only at hl
  by_cases h2 : k = 2
  · subst h2
    rw [taken2] at hl
    match s with
    | [] => simp [stepS]
    | t :: r => simp at hl; omega
  · by_cases h3 : 3 ≤ k ∧ k ≤ 5
    · rw [taken35 h3] at hl
      rw [stepS35 h3]
      match s with
      | [] => simp
      | [a] => simp
      | b :: a :: r => simp at hl; omega
    · rw [taken_else h2 h3] at hl; omega
theorem taken_le (k : Int) : 0 ≤ taken k ∧ taken k ≤ 2 := by
  unfold taken
  repeat' split
  all_goals omega

set_option maxHeartbeats 1000000 in
theorem implTermOk (p : Int) (ms : List (Int × Int)) (B : Nat) (v : Value) (w : World) (hr : RdMarks w B v ms) (hB : B ≤ w.heap.size) :
    Calls Try.prog 33 #[.int .i64 p, v] w fun e w' => e = .returned (.bool (termOk p ms)) ∧ Below w.heap.size w w' := by
  obtain ⟨ao, cap, rfl, hal, ham, hi0, hac0⟩ := hr
  have hac := Lib.hid hac0; clear hac0 hi0
  unfold maxLen at ham
  by_cases hp : 1 ≤ p ∧ p ≤ 4
  case neg =>
    have Hv := Lib.hid (termOk_no_p (ms := ms) hp)
    have Hp : Hid (pOk p = false) := by unfold Hid pOk; simpa using hp
    clear hp
    go_enter Try.func33, Try.ntmps33
    go_wp2_with fail
    refine (implPeopleOk _ _).mono ?_
    rintro e w' ⟨rfl, rfl⟩
    rw [Hp.out]
    go_wp2
    go_ret
    exact ⟨ret_bool Hv.out.symm, Below.refl _ _⟩
  have Hp : Hid (pOk p = true) := by unfold Hid pOk; simpa using hp
  by_cases hl : ms.length ≤ 15
  case neg =>
    have Hv := Lib.hid (termOk_no_len (p := p) hl)
    have hl' : 15 < ms.length := by omega
    clear hp hl
    go_enter Try.func33, Try.ntmps33
    go_wp2_with fail
    refine (implPeopleOk _ _).mono ?_
    rintro e w' ⟨rfl, rfl⟩
    rw [Hp.out]
    go_wp2
    go_ret
    exact ⟨ret_bool Hv.out.symm, Below.refl _ _⟩
  obtain ⟨hp1, hp4⟩ := hp
  go_enter Try.func33, Try.ntmps33
  go_wp2_with fail
  refine (implPeopleOk _ _).mono ?_
  rintro e w' ⟨rfl, rfl⟩
  rw [Hp.out]
  go_wp2_with fail
  obtain ⟨wo, rfl⟩ : ∃ wo : World, wo = w := ⟨_, rfl⟩
  go_loopw [5, 19] (fun n i wr => ∃ (k : Nat) (s : List Tm), k ≤ ms.length ∧ i = .int .i64 k ∧ Hid (runS p (ms.take k) [] = some s) ∧ n = .int .i64 s.length ∧ Below wo.heap.size wo wr)
    (fun _ i _ => ms.length - (intOf i).toNat)
  case atStart => exact ⟨0, [], Nat.zero_le _, rfl, rfl, rfl, Below.refl _ _⟩
  case round =>
    obtain ⟨k, s, hk, rfl, hs, rfl, hbel⟩ := hrel
    have hsl := runS_len hk hs.out
    by_cases hlt : k < ms.length
    · obtain ⟨b, off, rfl, hb, hc1, hc2⟩ := hac.out k hlt
      rw [← hbel.cell (p := ⟨b, _, none⟩) (show b < _ by omega)] at hc1 hc2
      have hsucc := Lib.hid (runS_take_succ p ms k hlt hs.out)
      generalize ms.getD k (0, 0) = m at *
      obtain ⟨kd, x⟩ := m
      dsimp only at hc1 hc2
      have htk := taken_le kd
      go_wp2_with fail
      refine (implPartsTaken _ _).mono ?_
      rintro e w' ⟨rfl, rfl⟩
      by_cases hm : mkOk p kd x = true
      · have Hm := Lib.hid hm
        by_cases hge : taken kd ≤ s.length
        · obtain ⟨s', hs', hlen⟩ := step_yes (p := p) (s := s) (m := (kd, x)) hm hge
          have Hs' : Hid (runS p (ms.take (k + 1)) [] = some s') := by rw [hsucc.out]; exact hs'
          have Hlen := Lib.hid hlen
          have hnlt : ¬ (s.length : Int) < taken kd := by omega
          clear hm hs' hlen hsucc
          generalize taken kd = tk at *
          go_wp2_with fail
          refine (implMarkOk _ _ _ hp1 hp4 _).mono ?_
          rintro e w2 ⟨rfl, hb2⟩
          rw [Hm.out]
          have hbel2 : Below wo.heap.size wo w2 := (hbel.alloc hbel.size _).trans (hb2.mono (by have := hbel.size; simp; omega))
          clear hb2
          go_wp2
          go_roundw
          case rel => exact ⟨k + 1, s', by omega, by go_num, Hs', by rw [Hlen.out], hbel2⟩
          case measure => simp [intOf]; omega
        · have Hv : Hid (termOk p ms = false) := termOk_no_run (k := k + 1) (by rw [hsucc.out]; exact step_no2 hge)
          have hlt' : (s.length : Int) < taken kd := by omega
          clear hm hge hsucc
          generalize taken kd = tk at *
          go_wp2_with fail
          refine (implMarkOk _ _ _ hp1 hp4 _).mono ?_
          rintro e w2 ⟨rfl, hb2⟩
          rw [Hm.out]
          have hbel2 : Below wo.heap.size wo w2 := (hbel.alloc hbel.size _).trans (hb2.mono (by have := hbel.size; simp; omega))
          clear hb2
          go_wp2
          go_ret
          exact ⟨ret_bool Hv.out.symm, hbel2⟩
      · have Hm : Hid (mkOk p kd x = false) := by simpa [Hid] using hm
        have Hv : Hid (termOk p ms = false) := termOk_no_run (k := k + 1) (by rw [hsucc.out]; exact step_no1 Hm.out)
        clear hm hsucc
        generalize taken kd = tk at *
        go_wp2_with fail
        refine (implMarkOk _ _ _ hp1 hp4 _).mono ?_
        rintro e w2 ⟨rfl, hb2⟩
        rw [Hm.out]
        have hbel2 : Below wo.heap.size wo w2 := (hbel.alloc hbel.size _).trans (hb2.mono (by have := hbel.size; simp; omega))
        clear hb2
        go_wp2
        go_ret
        exact ⟨ret_bool Hv.out.symm, hbel2⟩
    · obtain rfl : k = ms.length := by omega
      have Hv : Hid (termOk p ms = decide (s.length = 1)) := termOk_of_run (by have := hs.out; rwa [List.take_length] at this) hp1 hp4 hl
      go_wp2
      go_ret
      exact ⟨ret_bool (by rw [Hv.out, Bool.eq_iff_iff]; simp; omega), hbel⟩

set_option maxHeartbeats 400000 in
theorem specL1In (n lo hi : Int) (b : Bool) (hb : Hid (b = decide (lo ≤ n ∧ n ≤ hi))) (w : World) :
    Calls Try.prog 23 #[.int .i64 n, .int .i64 lo, .int .i64 hi] w fun e w' => e = .returned (.bool b) ∧ w = w' := by
  by_cases h1 : lo ≤ n
  · by_cases h2 : n ≤ hi
    · go_enter Try.func23, Try.ntmps23
      go_wp2
      go_ret
      exact ⟨ret_bool (by rw [hb.out]; simp [h1, h2]), rfl⟩
    · have h2' : hi < n := by omega
      go_enter Try.func23, Try.ntmps23
      go_wp2
      go_ret
      exact ⟨ret_bool (by rw [hb.out]; simp [h1, h2]), rfl⟩
  · have h1' : n < lo := by omega
    go_enter Try.func23, Try.ntmps23
    go_wp2
    go_ret
    exact ⟨ret_bool (by rw [hb.out, Bool.eq_iff_iff]; simp; omega), rfl⟩

end Go.Proofs.Ytbnickgjnglblaa

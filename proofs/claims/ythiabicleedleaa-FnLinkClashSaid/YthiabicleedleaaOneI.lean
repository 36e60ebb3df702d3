/- Contracts of the program's stories with one answer: clashes, only worlds, known people, needless claims, least stories. -/
import Derived.Test.YthiabicleedleaaMerged15
import Derived.Test.YthiabicleedleaaMerged22
import Derived.Test.YthiabicleedleaaMerged18
import Derived.Test.YthiabicleedleaaClaimI
import Derived.Test.YthiabicleedleaaOneU
import Derived.Deep.OwnRows
namespace Go.Proofs.Ythiabicleedleaa
open Go.RowKit Go.Joins
/-! ### bits of some worlds together -/
def andF (l : List Nat) (j : Nat) : Nat := (l.take j).foldl (fun a x => a &&& x) (l.getD 0 0)
def orF (l : List Nat) (j : Nat) : Nat := (l.take j).foldl (fun a x => a ||| x) 0
theorem andF_zero (l : List Nat) : andF l 0 = l.getD 0 0 := by simp [andF]
theorem orF_zero (l : List Nat) : orF l 0 = 0 := by simp [orF]
theorem andF_succ (l : List Nat) (j : Nat) (hj : j < l.length) : andF l (j + 1) = andF l j &&& l.getD j 0 := by
  have e : l.getD j 0 = l[j] := by simp [List.getD, hj]
  unfold andF
  rw [List.take_succ_eq_append_getElem hj, List.foldl_append, e]; rfl
theorem orF_succ (l : List Nat) (j : Nat) (hj : j < l.length) : orF l (j + 1) = orF l j ||| l.getD j 0 := by
  have e : l.getD j 0 = l[j] := by simp [List.getD, hj]
  unfold orF
  rw [List.take_succ_eq_append_getElem hj, List.foldl_append, e]; rfl
theorem andF_le (l : List Nat) (j : Nat) : andF l j ≤ l.getD 0 0 := by
  induction j with
  | zero => rw [andF_zero]; exact Nat.le_refl _
  | succ j ih =>
    by_cases hj : j < l.length
    · rw [andF_succ l j hj]; exact Nat.le_trans Nat.and_le_left ih
    · have e : andF l (j + 1) = andF l j := by unfold andF; rw [List.take_of_length_le (by omega), List.take_of_length_le (by omega)]
      rw [e]; exact ih
theorem orF_lt {l : List Nat} (h : ∀ j, l.getD j 0 < 16) (j : Nat) : orF l j < 16 := by
  induction j with
  | zero => rw [orF_zero]; omega
  | succ j ih =>
    by_cases hj : j < l.length
    · rw [orF_succ l j hj]; exact Nat.or_lt_two_pow (n := 4) ih (h j)
    · have e : orF l (j + 1) = orF l j := by unfold orF; rw [List.take_of_length_le (by omega), List.take_of_length_le (by omega)]
      rw [e]; exact ih
theorem fold_and_bit (k : Nat) (l : List Nat) : ∀ a : Nat, (l.foldl (fun a x => a &&& x) a).testBit k = (a.testBit k && l.all fun x => x.testBit k) := by
  induction l with
  | nil => intro a; simp
  | cons x r ih => intro a; rw [List.foldl_cons, ih, Nat.testBit_and, List.all_cons, Bool.and_assoc]
theorem fold_or_bit (k : Nat) (l : List Nat) : ∀ a : Nat, (l.foldl (fun a x => a ||| x) a).testBit k = (a.testBit k || l.any fun x => x.testBit k) := by
  induction l with
  | nil => intro a; simp
  | cons x r ih => intro a; rw [List.foldl_cons, ih, Nat.testBit_or, List.any_cons, Bool.or_assoc]
theorem known_bits {l : List Nat} (hl : l ≠ []) (k : Nat) : knownK l k = if (andF l l.length).testBit k then 1 else if (orF l l.length).testBit k then -1 else 0 := by
  have ha : (andF l l.length).testBit k = l.all fun x => x.testBit k := by
    unfold andF
    rw [List.take_length, fold_and_bit]
    cases l with
    | nil => exact absurd rfl hl
    | cons x r => simp only [List.getD_cons_zero, List.all_cons]; rw [← Bool.and_assoc, Bool.and_self]
  have ho : (orF l l.length).testBit k = l.any fun x => x.testBit k := by
    unfold orF
    rw [List.take_length, fold_or_bit, Nat.zero_testBit, Bool.false_or]
  rw [ha, ho]
  by_cases h1 : (l.all fun x => x.testBit k) = true
  · rw [if_pos h1, known_one hl]
    simpa using h1
  · rw [if_neg h1]
    by_cases h2 : (l.any fun x => x.testBit k) = true
    · rw [if_pos h2]
      rcases known_cases l k with h | h | h
      · rw [known_zero] at h
        obtain ⟨x, hx, hb⟩ := List.any_eq_true.1 h2
        rw [h x hx] at hb; cases hb
      · rw [known_one hl] at h
        exact absurd (List.all_eq_true.2 h) h1
      · exact h
    · rw [if_neg h2, known_zero]
      intro x hx
      cases hb : x.testBit k with
      | false => rfl
      | true => exact absurd (List.any_eq_true.2 ⟨x, hx, hb⟩) h2
/-- a row whose cells are told by a function, as a row of the call's own -/
theorem own_of_rowIs {w : World} {base g n : Nat} {f : Nat → Value} {xs : List Value} (h : w.rowIs g 3 n f) (hb : base ≤ g) (hn : n ≤ maxLen) (hl : xs.length = n) (hx : ∀ j, j < n → xs[j]? = some (f j)) : w.ownsRow base 3 1 (.slice (some ⟨g, 0, none⟩) n n) n xs := by
  obtain ⟨c, hc, hs, hf⟩ := h
  refine ⟨by omega, .inr ⟨g, n, c, rfl, hb, hc, Nat.le_refl _, hn, by omega, ?_⟩⟩
  refine List.ext_getElem? fun j => ?_
  by_cases hj : j < n
  · rw [List.getElem?_take, if_pos (by omega), hx j hj]
    simpa using hf j hj
  · rw [List.getElem?_eq_none (by simp; omega), List.getElem?_eq_none (by omega)]
attribute [local irreducible] holds tabN tabV holdsV sameV followsV alwaysV matterV claimOk mayT mayV ctabV ctabN storyV storyOk storyN storyT ctermV ctermL clashV onlyOk onlyN knownF knownL knownK cntK swl needL leastR leastV ccells mcells andF orF
theorem below_alloc1 (w : World) (a : Obj) : Below w.heap.size w (w.alloc a) := (Below.refl _ _).alloc (Nat.le_refl _) _
theorem woL_lenI (qs : List QC) (k : Nat) (hk : k < qs.length) : (qs.take k ++ qs.drop (k + 1)).length = qs.length - 1 := by
  rw [List.length_append, List.length_take, List.length_drop]; omega
theorem RdStory.nothing {w : World} {B : Nat} (ao : Option Addr) : RdStory w B (.slice ao 0 0) [] := ⟨ao, 0, rfl, Nat.le_refl _, Nat.zero_le _, by simp, fun j hj => by simp at hj⟩
theorem need_of {p : Int} {s : List Cl} (hok : storyOk p s = true) {k : Nat} : storyV p (woL s k) = (storyN p (woL s k) : Int) ∧ storyV p s = (storyN p s : Int) ∧ needB p s k = decide (storyN p (woL s k) = storyN p s) :=
  ⟨storyV_yes (woL_ok hok), storyV_yes hok, rfl⟩
theorem clash_V (p : Int) (s : List Cl) : clashV p s = decide (storyV p s = 0) := by
  cases h : storyOk p s with
  | false => rw [clash_no h, storyV_no h]; rfl
  | true =>
    rw [clash_yes h, storyV_yes h, decide_eq_decide]
    omega
set_option maxHeartbeats 1000000 in
theorem implOnlyWorld (p : Int) (qs : List QC) (B : Nat) (v : Value) (w : World) (hr : RdStory w B v qs) (hB : B ≤ w.heap.size) :
    Calls Try.prog 25 #[.int .i64 p, v] w fun e w' => e = .returned (.tuple #[.int .i64 (onlyN p (qs.map (·.2))), .bool (onlyOk p (qs.map (·.2)))]) ∧ Below w.heap.size w w' := by
  have Ht := Lib.hid (fun w h hB => implStoryTable p qs B v w h hB)
  have Hw := Lib.hid (fun w => implWorldsIn p (storyV p (qs.map (·.2))) w)
  rw [show wlp p (storyV p (qs.map (·.2))) = swl p (qs.map (·.2)) by unfold swl; rfl] at Hw
  have hlen := swl_len p (qs.map (·.2))
  generalize hl : swl p (qs.map (·.2)) = l at *
  generalize storyV p (qs.map (·.2)) = T at *
  by_cases h1 : l.length = 1
  · obtain ⟨z, rfl⟩ : ∃ z, l = [z] := List.length_eq_one_iff.1 h1
    obtain ⟨e1, e2⟩ := onlyN_one hl
    have E1 := Lib.hid e1
    have E2 := Lib.hid e2
    clear e1 e2 hl h1 hlen
    go_enter Try.func25, Try.ntmps25
    go_wp2_with fail
    refine (Ht.out _ hr hB).mono ?_
    rintro e w2 ⟨rfl, hb2⟩
    have Hb2 := Lib.hid hb2; clear hb2
    go_wp2_with fail
    refine (Hw.out _).mono ?_
    rintro e w3 ⟨v3, rfl, hown, hb3⟩
    obtain ⟨g, cap, rfl⟩ := ownsRow_form hown (by simp)
    have Hb3 := Lib.hid (Hb2.out.trans (hb3.mono Hb2.out.size)); clear hb3
    have hc0 := hown.cellAt 0 (by simp)
    have hcap := (own_cap hown).1
    simp [vals] at hc0
    simp at hcap
    simp
    clear hown
    go_wp2
    go_ret2
    exact ⟨by rw [E1.out, E2.out]; rfl, Hb3.out⟩
  · obtain ⟨e1, e2⟩ := onlyN_not (p := p) (s := qs.map (·.2)) (by rw [hl]; exact h1)
    have E1 := Lib.hid e1
    have E2 := Lib.hid e2
    clear e1 e2 hl
    go_enter Try.func25, Try.ntmps25
    go_wp2_with fail
    refine (Ht.out _ hr hB).mono ?_
    rintro e w2 ⟨rfl, hb2⟩
    have Hb2 := Lib.hid hb2; clear hb2
    go_wp2_with fail
    refine (Hw.out _).mono ?_
    rintro e w3 ⟨v3, rfl, hown, hb3⟩
    obtain ⟨ao, cp, rfl⟩ := own_len hown
    have Hb3 := Lib.hid (Hb2.out.trans (hb3.mono Hb2.out.size)); clear hb3 hown
    go_wp2
    go_ret2
    exact ⟨by rw [E1.out, E2.out]; rfl, Hb3.out⟩
theorem row_next {w : World} {g P k : Nat} {l : List Nat} {x : Int} (h : w.rowIs g 3 P (fun q => if q < k then .int .i64 (knownK l q) else .int .i64 0)) (hx : knownK l k = x) : (w.setCell ⟨g, k, none⟩ (.int .i64 x)).rowIs g 3 P (fun q => if q < k + 1 then .int .i64 (knownK l q) else .int .i64 0) :=
  (h.set k (.int .i64 x)).congr fun q _ => by
    by_cases e : q = k
    · subst e; simp [hx]
    · rw [if_neg e]
      by_cases h1 : q < k
      · rw [if_pos h1, if_pos (by omega)]
      · rw [if_neg h1, if_neg (by omega)]
theorem row_stay {w : World} {g P k : Nat} {l : List Nat} (h : w.rowIs g 3 P (fun q => if q < k then .int .i64 (knownK l q) else .int .i64 0)) (hx : knownK l k = 0) : w.rowIs g 3 P (fun q => if q < k + 1 then .int .i64 (knownK l q) else .int .i64 0) :=
  h.congr fun q _ => by
    by_cases e : q = k
    · subst e; simp [hx]
    · by_cases h1 : q < k
      · rw [if_pos h1, if_pos (by omega)]
      · rw [if_neg h1, if_neg (by omega)]
theorem rd_drewI {w : World} {B : Nat} {u : Value} {ms : List (Int × Int)} (h : RdMarks w B u ms) (k : Nat) : RdMarks (w.drewN k) B u ms := h
theorem story_says {p : Int} {qs : List QC} (hok : storyOk p (qs.map (·.2)) = true) : ∀ j, j < qs.length → (qs.getD j qc0).2.2.length ≤ 15 := fun j hj => by
  have e : qs.getD j qc0 = qs[j] := by simp [List.getD, hj]
  have := (storyOk_iff.1 hok).1 qs[j].2 (List.mem_map.2 ⟨_, List.getElem_mem hj, rfl⟩)
  obtain ⟨_, _, _, h4⟩ := claimOk_iff.1 this
  rw [e]; omega
end Go.Proofs.Ythiabicleedleaa

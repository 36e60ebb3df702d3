/- Contracts of the program's stories with one answer: clashes, only worlds, known people, needless claims, least stories. -/
import Derived.Test.YtncihjelpaiocaaOneG
import Derived.Test.YtncihjelpaiocaaConcatK
import Derived.Test.YtncihjelpaiocaaClaimI
import Derived.Test.YtncihjelpaiocaaOneU
import Derived.Deep.OwnRows
namespace Go.Proofs.Ytncihjelpaiocaa
open Go.RowKit Go.Joins
/-! ### bits of some worlds together -/
def andF (l : List Nat) (j : Nat) : Nat := (l.take j).foldl (fun a x => a &&& x) (l.getD 0 0)
def orF (l : List Nat) (j : Nat) : Nat := (l.take j).foldl (fun a x => a ||| x) 0
theorem andF_zero (l : List Nat) : andF l 0 = l.getD 0 0 := by simp [andF]
theorem orF_zero (l : List Nat) : orF l 0 = 0 := by simp [orF]
theorem andF_succ (l : List Nat) (j : Nat) (hj : j < l.length) : andF l (j + 1) = andF l j &&& l.getD j 0 := by
  have e : l.getD j 0 = l[j] := by simp [List.getD, hj]
  unfold andF
  rw [List.take_succ_eq_append_getElem hj, List.foldl_append, e]; rfl
theorem orF_succ (l : List Nat) (j : Nat) (hj : j < l.length) : orF l (j + 1) = orF l j ||| l.getD j 0 := by
  have e : l.getD j 0 = l[j] := by simp [List.getD, hj]
  unfold orF
  rw [List.take_succ_eq_append_getElem hj, List.foldl_append, e]; rfl
theorem andF_le (l : List Nat) (j : Nat) : andF l j ≤ l.getD 0 0 := by
  induction j with
  | zero => rw [andF_zero]; exact Nat.le_refl _
  | succ j ih =>
    by_cases hj : j < l.length
    · rw [andF_succ l j hj]; exact Nat.le_trans Nat.and_le_left ih
    · have e : andF l (j + 1) = andF l j := by unfold andF; rw [List.take_of_length_le (by omega), List.take_of_length_le (by omega)]
      rw [e]; exact ih
theorem orF_lt {l : List Nat} (h : ∀ j, l.getD j 0 < 16) (j : Nat) : orF l j < 16 := by
  induction j with
  | zero => rw [orF_zero]; omega
  | succ j ih =>
    by_cases hj : j < l.length
    · rw [orF_succ l j hj]; exact Nat.or_lt_two_pow (n := 4) ih (h j)
    · have e : orF l (j + 1) = orF l j := by unfold orF; rw [List.take_of_length_le (by omega), List.take_of_length_le (by omega)]
      rw [e]; exact ih
theorem fold_and_bit (k : Nat) (l : List Nat) : ∀ a : Nat, (l.foldl (fun a x => a &&& x) a).testBit k = (a.testBit k && l.all fun x => x.testBit k) := by
  induction l with
  | nil => intro a; simp
  | cons x r ih => intro a; rw [List.foldl_cons, ih, Nat.testBit_and, List.all_cons, Bool.and_assoc]
theorem fold_or_bit (k : Nat) (l : List Nat) : ∀ a : Nat, (l.foldl (fun a x => a ||| x) a).testBit k = (a.testBit k || l.any fun x => x.testBit k) := by
  induction l with
  | nil => intro a; simp
  | cons x r ih => intro a; rw [List.foldl_cons, ih, Nat.testBit_or, List.any_cons, Bool.or_assoc]
theorem known_bits {l : List Nat} (hl : l ≠ []) (k : Nat) : knownK l k = if (andF l l.length).testBit k then 1 else if (orF l l.length).testBit k then -1 else 0 := by
  have ha : (andF l l.length).testBit k = l.all fun x => x.testBit k := by
    unfold andF
    rw [List.take_length, fold_and_bit]
    cases l with
    | nil => exact absurd rfl hl
    | cons x r => simp only [List.getD_cons_zero, List.all_cons]; rw [← Bool.and_assoc, Bool.and_self]
  have ho : (orF l l.length).testBit k = l.any fun x => x.testBit k := by
    unfold orF
    rw [List.take_length, fold_or_bit, Nat.zero_testBit, Bool.false_or]
  rw [ha, ho]
  by_cases h1 : (l.all fun x => x.testBit k) = true
  · rw [if_pos h1, known_one hl]
    simpa using h1
  · rw [if_neg h1]
    by_cases h2 : (l.any fun x => x.testBit k) = true
    · rw [if_pos h2]
      rcases known_cases l k with h | h | h
      · rw [known_zero] at h
        obtain ⟨x, hx, hb⟩ := List.any_eq_true.1 h2
        rw [h x hx] at hb; cases hb
      · rw [known_one hl] at h
        exact absurd (List.all_eq_true.2 h) h1
      · exact h
    · rw [if_neg h2, known_zero]
      intro x hx
      cases hb : x.testBit k with
      | false => rfl
      | true => exact absurd (List.any_eq_true.2 ⟨x, hx, hb⟩) h2
/-- a row whose cells are told by a function, as a row of the call's own -/
theorem own_of_rowIs {w : World} {base g n : Nat} {f : Nat → Value} {xs : List Value} (h : w.rowIs g 3 n f) (hb : base ≤ g) (hn : n ≤ maxLen) (hl : xs.length = n) (hx : ∀ j, j < n → xs[j]? = some (f j)) : w.ownsRow base 3 1 (.slice (some ⟨g, 0, none⟩) n n) n xs := by
  obtain ⟨c, hc, hs, hf⟩ := h
  refine ⟨by omega, .inr ⟨g, n, c, rfl, hb, hc, Nat.le_refl _, hn, by omega, ?_⟩⟩
  refine List.ext_getElem? fun j => ?_
  by_cases hj : j < n
  · rw [List.getElem?_take, if_pos (by omega), hx j hj]
    simpa using hf j hj
  · rw [List.getElem?_eq_none (by simp; omega), List.getElem?_eq_none (by omega)]
theorem mcells_nilI : mcells [] = [] := rfl
attribute [local irreducible] holds tabN tabV holdsV sameV followsV alwaysV matterV claimOk mayT mayV ctabV ctabN storyV storyOk storyN storyT ctermV ctermL clashV onlyOk onlyN knownF knownL knownK cntK swl needL leastR leastV ccells mcells andF orF
theorem below_alloc1 (w : World) (a : Obj) : Below w.heap.size w (w.alloc a) := (Below.refl _ _).alloc (Nat.le_refl _) _
/-- two stories that were read, out of a row of two parts that the region laid -/
theorem withoutCat (w3 W : World) (g c B : Nat) (u v : Value) (X Y : List QC) (hu : RdStory w3 B u X) (hv : RdStory w3 B v Y) (hB : B ≤ w3.heap.size) (hl : X.length + Y.length ≤ 1000) (hbW : Below w3.heap.size w3 W) (hg : g < W.heap.size) (c0 : W.cell? ⟨g, 0, none⟩ = some u) (c1 : W.cell? ⟨g, 1, none⟩ = some v) (hc : 2 ≤ c := by omega) (hcm : c ≤ 1000 := by omega) :
    Calls Try.prog 82 #[.slice (some ⟨g, 0, none⟩) 2 c] W fun e w' => ∃ u, e = .returned u ∧ w'.ownsRow w3.heap.size TC 2 u (X ++ Y).length (ccells (X ++ Y)) ∧ Below w3.heap.size w3 w' := by
  have hs := hbW.size
  refine (concatK2 W g c u v X Y hc hcm hg c0 c1 ((hu.below fun q hq => hbW.block q (by omega)).mono (by omega)) ((hv.below fun q hq => hbW.block q (by omega)).mono (by omega)) hl).mono ?_
  rintro e w' ⟨x, rfl, ho, hb⟩
  exact ⟨x, rfl, own_mono ho hs, hbW.trans (hb.mono hs)⟩
theorem woL_lenI (qs : List QC) (k : Nat) (hk : k < qs.length) : (qs.take k ++ qs.drop (k + 1)).length = qs.length - 1 := by
  rw [List.length_append, List.length_take, List.length_drop]; omega
theorem RdStory.nothing {w : World} {B : Nat} (ao : Option Addr) : RdStory w B (.slice ao 0 0) [] := ⟨ao, 0, rfl, Nat.le_refl _, Nat.zero_le _, by simp, fun j hj => by simp at hj⟩
set_option maxRecDepth 100000 in
set_option maxHeartbeats 4000000 in
theorem implWithoutK (qs : List QC) (k : Nat) (hk : k < qs.length) (hsz : qs.length ≤ 6) (B : Nat) (v : Value) (w : World) (hr : RdStory w B v qs) (hB : B ≤ w.heap.size) :
    Calls Try.prog 63 #[v, .int .i64 k] w fun e w' => ∃ u, e = .returned u ∧ w'.ownsRow w.heap.size TC 2 u (qs.length - 1) (ccells (woL qs k)) ∧ Below w.heap.size w w' := by
  obtain ⟨ao, cap, rfl, hl, hm, hh⟩ := hr.len
  obtain ⟨b, off, rfl, hb⟩ := hh (by omega)
  unfold maxLen at hm
  have hpre := hr.pre (k := k) (by omega)
  have hpost0 := hr.post (k := k + 1) (by omega)
  have Hl := Lib.hid (woL_lenI qs k hk)
  have Hwo : Hid (woL qs k = qs.take k ++ qs.drop (k + 1)) := rfl
  have hlt1 : (qs.take k).length = k := by rw [List.length_take]; omega
  have hlt2 : (qs.drop (k + 1)).length = qs.length - (k + 1) := List.length_drop
  have hdrop : k + 1 = cap → qs.drop (k + 1) = [] := fun h => List.eq_nil_of_length_eq_zero (by omega)
  generalize qs.take k = X at *
  generalize qs.drop (k + 1) = Y at *
  generalize qs.length = n at *
  clear hr hh
  by_cases hcap : k + 1 = cap
  · have hn1 : n = k + 1 := by omega
    obtain rfl := hdrop hcap
    have hpost : RdStory w B (.slice (some ⟨b, off, none⟩) 0 0) [] := RdStory.nothing _
    have HPre := Lib.hid hpre
    have HPost := Lib.hid hpost
    have hXl : X.length + ([] : List QC).length ≤ 1000 := by simp; omega
    have HXl := Lib.hid hXl
    obtain rfl : cap = n := by omega
    have hci : (k : Int) + 1 = (cap : Int) := by omega
    clear hpre hpost hpost0 hlt1 hlt2 hdrop hXl hcap hn1
    have hi0 : (0 : Int) ≤ (k : Int) := by omega
    have hi1 : (k : Int) ≤ (cap : Int) := by omega
    have hi2 : k ≤ cap := by omega
    have hi3 : ¬ cap = 0 := by omega
    have hi4 : (0 : Int) ≤ (cap : Int) := by omega
    have hi7 : IntKind.i64.wrap (cap : Int) = (cap : Int) := IntWalk.i64_in _ (by omega)
    have hj7 : IntKind.i64.wrap ((k : Int) + 1) = (cap : Int) := by rw [IntWalk.i64_in _ (by omega)]; omega
    have hi8 : ((cap : Nat) : Int).toNat = cap := by omega
    go_enter Try.func63, Try.ntmps63
    go_upto_region 1 with fail
    go_region_held3 (fun _ => True) (trivial)
      (first
        | (go_at_call 82
           (with_reducible refine (withoutCat w _ w.heap.size 2 B (.slice (some ⟨b, off, none⟩) k cap) (.slice (some ⟨b, off, none⟩) 0 0) X [] HPre.out HPost.out hB HXl.out ?_ ?_ ?_ ?_).mono ?_)
           · first | exact below_alloc1 w _ | exact below_drew1 (below_alloc1 w _) | exact below_drewN (below_alloc1 w _) _
           · first | (simp; done) | (simp; omega)
           · go_simp
           · go_simp
           rintro e w5 ⟨u5, rfl, ho5, hb5⟩
           go_must (have Ho5 := Lib.hid ho5
                    have Hb5 := Lib.hid hb5
                    clear ho5 hb5))
        | fail)
    go_wp2
    go_ret
    refine ⟨_, rfl, ?_, Hb5.out⟩
    rw [Hwo.out, ← Hl.out]
    exact Ho5.out
  · have hlt : k + 1 < cap := by omega
    have hci : ¬ ((k : Int) + 1 = cap) := by omega
    have hXl : X.length + Y.length ≤ 1000 := by omega
    have HXl := Lib.hid hXl
    have HPre := Lib.hid hpre
    have HPost := Lib.hid hpost0
    clear hpre hpost0 hlt1 hlt2 hdrop hXl
    have hi0 : (0 : Int) ≤ (k : Int) := by omega
    have hi1 : (k : Int) ≤ (cap : Int) := by omega
    have hi2 : k ≤ cap := by omega
    have hi3 : ¬ cap = 0 := by omega
    have hi4 : (0 : Int) ≤ (k : Int) + 1 := by omega
    have hi5 : (k : Int) + 1 ≤ (n : Int) := by omega
    have hi6 : k + 1 ≤ n := by omega
    have hi7 : IntKind.i64.wrap ((k : Int) + 1) = (k : Int) + 1 := IntWalk.i64_in _ (by omega)
    have hi8 : ((k : Int) + 1).toNat = k + 1 := by omega
    have hi9 : (n : Int) ≤ (cap : Int) := by omega
    have hia : n ≤ cap := by omega
    have hib : ¬ k + 1 = cap := hcap
    have hic : ¬ cap = k + 1 := by omega
    go_enter Try.func63, Try.ntmps63
    go_upto_region 1 with fail
    go_region_held3 (fun _ => True) (trivial)
      (first
        | (go_at_call 82
           (with_reducible refine (withoutCat w _ w.heap.size 2 B (.slice (some ⟨b, off, none⟩) k cap) (.slice (some ⟨b, off + (k + 1) * 2, none⟩) (n - (k + 1)) (cap - (k + 1))) X Y HPre.out HPost.out hB HXl.out ?_ ?_ ?_ ?_).mono ?_)
           · first | exact below_alloc1 w _ | exact below_drew1 (below_alloc1 w _) | exact below_drewN (below_alloc1 w _) _
           · first | (simp; done) | (simp; omega)
           · go_simp
           · go_simp
           rintro e w5 ⟨u5, rfl, ho5, hb5⟩
           go_must (have Ho5 := Lib.hid ho5
                    have Hb5 := Lib.hid hb5
                    clear ho5 hb5))
        | fail)
    go_wp2
    go_ret
    refine ⟨_, rfl, ?_, Hb5.out⟩
    rw [Hwo.out, ← Hl.out]
    exact Ho5.out
set_option maxRecDepth 100000 in
set_option maxHeartbeats 1000000 in
theorem implClone (ms : List (Int × Int)) (B : Nat) (u : Value) (w : World) (hr : RdMarks w B u ms) (hB : B ≤ w.heap.size) (hl : ms.length ≤ 1000) :
    Calls Try.prog 83 #[u] w (RowOut ms w) := by
  obtain ⟨im, hmi, hmz0, hmz1, hmz2⟩ := info_parts Try.infoM
  have Hr := Lib.hid hr
  obtain ⟨ao, cap, rfl, hlc, hcm, _, hc⟩ := hr
  cases ao with
  | none =>
    have h0 : ms = [] := by
      cases ms with
      | nil => rfl
      | cons m r =>
        obtain ⟨_, _, he, _⟩ := hc 0 (by simp)
        cases he
    subst h0
    clear Hr hc hmi hmz0 hmz1 hmz2
    have qT : ∀ (w : World), (binOp .eql 30 (.slice none 0 cap) (.slice none 0 0)).run Try.prog w = .ok (.bool true) w := fun w => Lib.run_eql_slice_nil w _ _ none _ _ _ _ Try.underlying30
    go_enter Try.func83, Try.ntmps83
    go_wp2
    go_ret
    exact ⟨_, rfl, by rw [mcells_nilI]; exact World.ownsRow_nil _ _ _ _, Below.refl _ _⟩
  | some a =>
    have hb1 : Below w.heap.size w (w.alloc (.cells #[] TM)) := (Below.refl _ _).alloc (Nat.le_refl _) _
    have hmade : (w.alloc (.cells #[] TM)).ownsRow w.heap.size TM 2 (.slice (some ⟨w.heap.size, 0, none⟩) 0 0) 0 [] := World.ownsRow_made _ _ 0 (Nat.le_refl _) (by unfold maxLen; omega) rfl
    obtain ⟨v4, w4, hrun, hown4, hgr4, _⟩ := append_rd hmi hmz0 hmz1 hmz2 hmade (Hr.out.below (w' := w.alloc (.cells #[] TM)) (fun q hq => hb1.block q (by omega))) (by omega) (by simp)
    have hb4 := below_grown_row hb1 hgr4 (by simp) (fun q hq => by cases hq; exact Nat.le_refl _)
    rw [Nat.zero_add, List.nil_append] at hown4
    have Hrun := Lib.hid hrun
    have Hown4 := Lib.hid hown4
    have Hb4 := Lib.hid hb4
    clear hrun hown4 hb4 hgr4 hmade hb1 hc Hr hmi hmz0 hmz1 hmz2
    have qT : ∀ (w : World), (binOp .eql 30 (.slice (some a) ms.length cap) (.slice none 0 0)).run Try.prog w = .ok (.bool false) w := fun w => Lib.run_eql_slice_nil w _ _ (some a) _ _ _ _ Try.underlying30
    go_enter Try.func83, Try.ntmps83
    go_wp2_with (first
      | (at_builtin; refine Lib.wpList_append_run _ rfl _ _ _ _ rfl _ _ rfl rfl _ _ Hrun.out ?_)
      | fail)
    go_wp2
    go_ret
    exact ⟨_, rfl, Hown4.out, Hb4.out⟩
theorem need_of {p : Int} {s : List Cl} (hok : storyOk p s = true) {k : Nat} : storyV p (woL s k) = (storyN p (woL s k) : Int) ∧ storyV p s = (storyN p s : Int) ∧ needB p s k = decide (storyN p (woL s k) = storyN p s) :=
  ⟨storyV_yes (woL_ok hok), storyV_yes hok, rfl⟩
set_option maxHeartbeats 2000000 in
theorem implNeedlessAt (p : Int) (qs : List QC) (k : Nat) (hk : k < qs.length) (hok : storyOk p (qs.map (·.2)) = true) (B : Nat) (v : Value) (w : World) (hr : RdStory w B v qs) (hB : B ≤ w.heap.size) :
    Calls Try.prog 61 #[.int .i64 p, v, .int .i64 k] w fun e w' => e = .returned (.bool (needB p (qs.map (·.2)) k)) ∧ Below w.heap.size w w' := by
  obtain ⟨e1, e2, e3⟩ := need_of hok (k := k)
  have Hwi := Lib.hid (implWithoutK qs k hk (storyOk_len hok) B v w hr hB)
  have hwt := fun B v w (h : RdStory w B v (woL qs k)) hB => implStoryTable p (woL qs k) B v w h hB
  rw [woL_map, e1] at hwt
  have htab := fun w h hB => implStoryTable p qs B v w h hB
  rw [e2] at htab
  have Hwt := Lib.hid hwt
  have Htab := Lib.hid htab
  have E3 := Lib.hid e3
  have Hwl := Lib.hid (woL_len hk)
  have Hmk := Lib.hid hr.marks
  have Hr := Lib.hid hr
  clear hwt htab e1 e2 e3 hok hr
  generalize needB p (qs.map (·.2)) k = nb at *
  generalize storyN p (woL (qs.map (·.2)) k) = T1 at *
  generalize storyN p (qs.map (·.2)) = T2 at *
  obtain ⟨wo, rfl⟩ : ∃ wo : World, wo = w := ⟨_, rfl⟩
  go_enter Try.func61, Try.ntmps61
  go_wp2_with fail
  refine Hwi.out.mono ?_
  rintro e w3 ⟨u3, rfl, hown3, hb3⟩
  have hs3 := hb3.size
  have Hb3 := Lib.hid hb3
  have Hr3 := Lib.hid (Hr.out.below (w' := w3) (fun q hq => hb3.block q (by omega)))
  have Hw3 : Hid (RdStory w3 w3.heap.size u3 (woL qs k)) := rdStory_own hown3 Hwl.out.symm (fun q hq => ⟨(Hr3.out.marks q (woL_mem hq)).1.mono (by omega), (Hr3.out.marks q (woL_mem hq)).2⟩)
  clear hown3 hb3
  go_wp2_with fail
  refine (Hwt.out _ _ _ Hw3.out (Nat.le_refl _)).mono ?_
  rintro e w4 ⟨rfl, hb4⟩
  have hs4 := hb4.size
  have Hb4 := Lib.hid (Hb3.out.trans (hb4.mono Hb3.out.size))
  have Hr4 := Lib.hid (Hr3.out.below (w' := w4) (fun q hq => hb4.block q (by omega)))
  clear hb4
  go_wp2_with fail
  refine (Htab.out _ Hr4.out (by omega)).mono ?_
  rintro e w5 ⟨rfl, hb5⟩
  have Hb5 := Lib.hid (Hb4.out.trans (hb5.mono Hb4.out.size))
  clear hb5
  go_wp2
  go_ret
  exact ⟨ret_bool (by rw [E3.out, Bool.eq_iff_iff]; simp; try omega), Hb5.out⟩
theorem clash_V (p : Int) (s : List Cl) : clashV p s = decide (storyV p s = 0) := by
  cases h : storyOk p s with
  | false => rw [clash_no h, storyV_no h]; rfl
  | true =>
    rw [clash_yes h, storyV_yes h, decide_eq_decide]
    omega
set_option maxHeartbeats 1000000 in
theorem implClashOk (p : Int) (qs : List QC) (B : Nat) (v : Value) (w : World) (hr : RdStory w B v qs) (hB : B ≤ w.heap.size) :
    Calls Try.prog 15 #[.int .i64 p, v] w fun e w' => e = .returned (.bool (clashV p (qs.map (·.2)))) ∧ Below w.heap.size w w' := by
  have Hf := Lib.hid (clash_V p (qs.map (·.2)))
  have Ht := Lib.hid (fun w h hB => implStoryTable p qs B v w h hB)
  generalize storyV p (qs.map (·.2)) = T at *
  go_enter Try.func15, Try.ntmps15
  go_wp2_with fail
  refine (Ht.out _ hr hB).mono ?_
  rintro e w2 ⟨rfl, hb2⟩
  have Hb2 := Lib.hid hb2; clear hb2
  go_wp2
  go_ret
  exact ⟨ret_bool (by rw [Hf.out]; first | rfl | (rw [Bool.eq_iff_iff]; simp)), Hb2.out⟩
set_option maxHeartbeats 1000000 in
theorem implOnlyWorld (p : Int) (qs : List QC) (B : Nat) (v : Value) (w : World) (hr : RdStory w B v qs) (hB : B ≤ w.heap.size) :
    Calls Try.prog 20 #[.int .i64 p, v] w fun e w' => e = .returned (.tuple #[.int .i64 (onlyN p (qs.map (·.2))), .bool (onlyOk p (qs.map (·.2)))]) ∧ Below w.heap.size w w' := by
  have Ht := Lib.hid (fun w h hB => implStoryTable p qs B v w h hB)
  have Hw := Lib.hid (fun w => implWorldsIn p (storyV p (qs.map (·.2))) w)
  rw [show wlp p (storyV p (qs.map (·.2))) = swl p (qs.map (·.2)) by unfold swl; rfl] at Hw
  have hlen := swl_len p (qs.map (·.2))
  generalize hl : swl p (qs.map (·.2)) = l at *
  generalize storyV p (qs.map (·.2)) = T at *
  by_cases h1 : l.length = 1
  · obtain ⟨z, rfl⟩ : ∃ z, l = [z] := List.length_eq_one_iff.1 h1
    obtain ⟨e1, e2⟩ := onlyN_one hl
    have E1 := Lib.hid e1
    have E2 := Lib.hid e2
    clear e1 e2 hl h1 hlen
    go_enter Try.func20, Try.ntmps20
    go_wp2_with fail
    refine (Ht.out _ hr hB).mono ?_
    rintro e w2 ⟨rfl, hb2⟩
    have Hb2 := Lib.hid hb2; clear hb2
    go_wp2_with fail
    refine (Hw.out _).mono ?_
    rintro e w3 ⟨v3, rfl, hown, hb3⟩
    obtain ⟨g, cap, rfl⟩ := ownsRow_form hown (by simp)
    have Hb3 := Lib.hid (Hb2.out.trans (hb3.mono Hb2.out.size)); clear hb3
    have hc0 := hown.cellAt 0 (by simp)
    have hcap := (own_cap hown).1
    simp [vals] at hc0
    simp at hcap
    simp
    clear hown
    go_wp2
    go_ret2
    exact ⟨by rw [E1.out, E2.out]; rfl, Hb3.out⟩
  · obtain ⟨e1, e2⟩ := onlyN_not (p := p) (s := qs.map (·.2)) (by rw [hl]; exact h1)
    have E1 := Lib.hid e1
    have E2 := Lib.hid e2
    clear e1 e2 hl
    go_enter Try.func20, Try.ntmps20
    go_wp2_with fail
    refine (Ht.out _ hr hB).mono ?_
    rintro e w2 ⟨rfl, hb2⟩
    have Hb2 := Lib.hid hb2; clear hb2
    go_wp2_with fail
    refine (Hw.out _).mono ?_
    rintro e w3 ⟨v3, rfl, hown, hb3⟩
    obtain ⟨ao, cp, rfl⟩ := own_len hown
    have Hb3 := Lib.hid (Hb2.out.trans (hb3.mono Hb2.out.size)); clear hb3 hown
    go_wp2
    go_ret2
    exact ⟨by rw [E1.out, E2.out]; rfl, Hb3.out⟩
theorem row_next {w : World} {g P k : Nat} {l : List Nat} {x : Int} (h : w.rowIs g 3 P (fun q => if q < k then .int .i64 (knownK l q) else .int .i64 0)) (hx : knownK l k = x) : (w.setCell ⟨g, k, none⟩ (.int .i64 x)).rowIs g 3 P (fun q => if q < k + 1 then .int .i64 (knownK l q) else .int .i64 0) :=
  (h.set k (.int .i64 x)).congr fun q _ => by
    by_cases e : q = k
    · subst e; simp [hx]
    · rw [if_neg e]
      by_cases h1 : q < k
      · rw [if_pos h1, if_pos (by omega)]
      · rw [if_neg h1, if_neg (by omega)]
theorem row_stay {w : World} {g P k : Nat} {l : List Nat} (h : w.rowIs g 3 P (fun q => if q < k then .int .i64 (knownK l q) else .int .i64 0)) (hx : knownK l k = 0) : w.rowIs g 3 P (fun q => if q < k + 1 then .int .i64 (knownK l q) else .int .i64 0) :=
  h.congr fun q _ => by
    by_cases e : q = k
    · subst e; simp [hx]
    · by_cases h1 : q < k
      · rw [if_pos h1, if_pos (by omega)]
      · rw [if_neg h1, if_neg (by omega)]
set_option maxRecDepth 100000 in
set_option maxHeartbeats 4000000 in
theorem implKnownPeople (p : Int) (qs : List QC) (B : Nat) (v : Value) (w : World) (hr : RdStory w B v qs) (hB : B ≤ w.heap.size) :
    Calls Try.prog 22 #[.int .i64 p, v] w fun e w' => ∃ u, e = .returned u ∧ w'.ownsRow w.heap.size 3 1 u (knownL p (qs.map (·.2))).length (ints (knownL p (qs.map (·.2)))) ∧ Below w.heap.size w w' := by
  have Ht := Lib.hid (fun w h hB => implStoryTable p qs B v w h hB)
  have Hw := Lib.hid (fun w => implWorldsIn p (storyV p (qs.map (·.2))) w)
  rw [show wlp p (storyV p (qs.map (·.2))) = swl p (qs.map (·.2)) by unfold swl; rfl] at Hw
  rw [show knownL p (qs.map (·.2)) = knownF p (swl p (qs.map (·.2))) by unfold knownL; rfl]
  have hlen := swl_len p (qs.map (·.2))
  have Hsm : Hid (∀ j, (swl p (qs.map (·.2))).getD j 0 < 16) := fun j => swl_small j
  have Hpp : Hid (swl p (qs.map (·.2)) ≠ [] → 1 ≤ p ∧ p ≤ 4) := fun h => story_people h
  generalize swl p (qs.map (·.2)) = l at *
  generalize storyV p (qs.map (·.2)) = T at *
  obtain ⟨wo, rfl⟩ : ∃ wo : World, wo = w := ⟨_, rfl⟩
  by_cases hl : l = []
  · subst hl
    rw [knownF_nil]
    go_enter Try.func22, Try.ntmps22
    go_wp2_with fail
    refine (Ht.out _ hr hB).mono ?_
    rintro e w2 ⟨rfl, hb2⟩
    have Hb2 := Lib.hid hb2; clear hb2
    go_wp2_with fail
    refine (Hw.out _).mono ?_
    rintro e w3 ⟨v3, rfl, hown, hb3⟩
    have HB3 := Lib.hid (Hb2.out.trans (hb3.mono Hb2.out.size))
    obtain ⟨ao, cp, rfl⟩ := own_len hown
    clear hown hb3
    go_wp2
    go_ret
    exact ⟨_, rfl, World.ownsRow_nil _ _ _ _, HB3.out⟩
  · obtain ⟨h1, h4⟩ := Hpp.out hl
    have Hkc := Lib.hid (knownF_cons (p := p) hl)
    have Hkb := Lib.hid (known_bits hl)
    obtain ⟨P, rfl⟩ := Int.eq_ofNat_of_zero_le (show 0 ≤ p by omega)
    obtain ⟨n, hn⟩ : ∃ n, n = l.length := ⟨_, rfl⟩
    have hn0 : 0 < n := by rw [hn]; exact List.length_pos_iff.2 hl
    have hP4 : P ≤ 4 := by omega
    have Hn := Lib.hid hn
    rw [← hn] at hlen Hw Hkb
    clear hn hl Hpp h1 h4
    go_enter Try.func22, Try.ntmps22
    go_wp2_with fail
    refine (Ht.out _ hr hB).mono ?_
    rintro e w2 ⟨rfl, hb2⟩
    have Hb2 := Lib.hid hb2; clear hb2
    go_wp2_with fail
    refine (Hw.out _).mono ?_
    rintro e w3 ⟨v3, rfl, hown, hb3⟩
    have hs3 := hb3.size
    have hB3 := Hb2.out.trans (hb3.mono Hb2.out.size)
    have HB3 := Lib.hid hB3
    have hwo3 := hB3.size
    obtain ⟨g, cap, rfl⟩ := ownsRow_form hown hn0
    have hcap := own_cap hown
    have hgs := (hown.lt g rfl).1
    have hcells : ∀ j, j < n → w3.cell? ⟨g, j, none⟩ = some (.int .i64 (l.getD j 0)) := fun j hj => by
      have h1 := hown.cellAt j (by omega)
      rw [h1, vals_get l j (by have := Hn.out; omega)]
    have Hcells := Lib.hid hcells
    have hc0 := hcells 0 hn0
    have ha0 := andF_zero l
    have ho0 := orF_zero l
    rw [← ha0] at hc0
    have Ho0 := Lib.hid ho0
    unfold maxLen at hcap
    clear hown hB3 hb3 hcells ha0 ho0
    go_upto_region 5 with fail
    go_wp2
    go_loop [6, 7, 9, 25] (fun a e _ i => ∃ j : Nat, j ≤ n ∧ i = .int .i64 j ∧ a = .int .i64 (andF l j) ∧ e = .int .i64 (orF l j)) (fun _ _ _ i => n - (intOf i).toNat)
    case atStart => exact ⟨0, Nat.zero_le _, rfl, rfl, by rw [Ho0.out]; rfl⟩
    case round =>
      obtain ⟨j, hj, rfl, rfl, rfl⟩ := hrel
      by_cases hjl : j < n
      · have hc := Hcells.out j hjl
        have hx := Hsm.out j
        have Hsa := Lib.hid (andF_succ l j (by have := Hn.out; omega))
        have Hso := Lib.hid (orF_succ l j (by have := Hn.out; omega))
        have h6 : andF l j < 16 := Nat.lt_of_le_of_lt (andF_le l j) (Hsm.out 0)
        have h7 : orF l j < 16 := orF_lt Hsm.out j
        have hand := bits_and_nat (andF l j) (l.getD j 0) (by omega) (by omega)
        have hor := bits_or_nat (orF l j) (l.getD j 0) (by omega) (by omega)
        generalize l.getD j 0 = x at *
        generalize andF l j = a at *
        generalize orF l j = o at *
        clear hc0
        go_wp2
        go_round
        case rel => exact ⟨j + 1, by omega, by go_num, by rw [Hsa.out], by rw [Hso.out]⟩
        case measure => simp [intOf]; omega
      · obtain rfl : j = n := by omega
        have h6 : andF l j < 16 := Nat.lt_of_le_of_lt (andF_le l j) (Hsm.out 0)
        have h7 : orF l j < 16 := orF_lt Hsm.out j
        generalize andF l j = A at *
        generalize orF l j = O at *
        have hmk := run_make_row' (P := Try.prog) 36 3 (.int .i64 0) 8 Try.underlying36 Try.info3 rfl .i64 .i64 P (by omega) (by omega)
        clear hc0 Hcells
        go_upto_region 12 with fail
        obtain ⟨w4, hw4⟩ : ∃ w4 : World, w4 = w3.alloc (.cells (madeCells #[.int .i64 0] P) 3) := ⟨_, rfl⟩
        have hrow := World.rowIs_made w3 (.int .i64 0) P 3
        have hb4 : Below wo.heap.size wo w4 := by rw [hw4]; exact HB3.out.alloc hwo3 _
        rw [← hw4] at hrow
        rw [← hw4]
        clear hmk hw4
        have Hrow := Lib.hid hrow
        have Hb4 := Lib.hid hb4
        clear hrow hb4
        go_wp2
        go_loopw [11, 40] (fun _ i wr => ∃ k : Nat, k ≤ P ∧ i = .int .i64 k ∧ wr.rowIs w3.heap.size 3 P (fun q => if q < k then .int .i64 (knownK l q) else .int .i64 0) ∧ Below wo.heap.size wo wr) (fun _ i _ => P - (intOf i).toNat)
        case atStart => exact ⟨0, Nat.zero_le _, rfl, Hrow.out.congr fun q _ => by simp, Hb4.out⟩
        case round =>
          obtain ⟨k, hk, rfl, hrow, hbr⟩ := hrel
          have Hrow1 := Lib.hid hrow
          have Hbr := Lib.hid hbr
          by_cases hkl : k < P
          · have hrc := hrow.cell hkl
            have hrf := hrow.frozen k
            rw [if_neg (Nat.lt_irrefl k)] at hrc
            have Hkv := Lib.hid (Hkb.out k)
            have hmk : min k 64 = k := by omega
            have hya := fun h => and_one_yes (T := A) (k := k) (by omega) h
            have hna := fun h => and_one_no (T := A) (k := k) (by omega) h
            have hyo := fun h => and_one_yes (T := O) (k := k) (by omega) h
            have hno := fun h => and_one_no (T := O) (k := k) (by omega) h
            clear hrow hbr Hrow Hb4
            cases hA : A.testBit k with
            | true =>
              have hta := hya hA
              have Hv : Hid (knownK l k = 1) := by unfold Hid; rw [Hkv.out, hA]; rfl
              clear hya hna hyo hno Hkv hA
              go_wp2
              go_roundw
              case rel => exact ⟨k + 1, by omega, by go_num, row_next Hrow1.out Hv.out, Hbr.out.setCell (by simp; omega) _⟩
              case measure => simp [intOf]; omega
            | false =>
              have hta := hna hA
              cases hO : O.testBit k with
              | true =>
                have hto := hyo hO
                have Hv : Hid (knownK l k = -1) := by unfold Hid; rw [Hkv.out, hA, hO]; rfl
                clear hya hna hyo hno Hkv hA hO
                go_wp2
                go_roundw
                case rel => exact ⟨k + 1, by omega, by go_num, row_next Hrow1.out Hv.out, Hbr.out.setCell (by simp; omega) _⟩
                case measure => simp [intOf]; omega
              | false =>
                have hto := hno hO
                have Hv : Hid (knownK l k = 0) := by unfold Hid; rw [Hkv.out, hA, hO]; rfl
                clear hya hna hyo hno Hkv hA hO
                go_wp2
                go_roundw
                case rel => exact ⟨k + 1, by omega, by go_num, row_stay Hrow1.out Hv.out, Hbr.out⟩
                case measure => simp [intOf]; omega
          · obtain rfl : k = P := by omega
            clear hrow hbr
            go_wp2
            go_ret
            refine ⟨_, rfl, ?_, Hbr.out⟩
            rw [Hkc.out, List.length_map, List.length_range, Int.toNat_natCast]
            refine own_of_rowIs (Hrow1.out.congr (g := fun q => .int .i64 (knownK l q)) fun q hq => if_pos hq) (by omega) (by unfold maxLen; omega) (by simp [ints]) (fun q hq => ?_)
            simp [ints, hq]
set_option maxRecDepth 100000 in
set_option maxHeartbeats 4000000 in
theorem implNeedless (p : Int) (qs : List QC) (B : Nat) (v : Value) (w : World) (hr : RdStory w B v qs) (hB : B ≤ w.heap.size) :
    Calls Try.prog 30 #[.int .i64 p, v] w fun e w' => ∃ u, e = .returned u ∧ w'.ownsRow w.heap.size 3 1 u (needL p (qs.map (·.2))).length (vals (needL p (qs.map (·.2)))) ∧ Below w.heap.size w w' := by
  obtain ⟨i0, hi, hz0, hz1, hz2⟩ := info_parts Try.info3
  have Hi := Lib.hid hi; clear hi
  have Hz0 := Lib.hid hz0; clear hz0
  have Hz1 := Lib.hid hz1; clear hz1
  have Hz2 := Lib.hid hz2; clear hz2
  have hso := fun w h hB => implStoryOk p qs B v w h hB
  have Hr := Lib.hid hr
  obtain ⟨ao, cap, rfl, hl, hm, hh⟩ := hr.len
  unfold maxLen at hm
  obtain ⟨wo, rfl⟩ : ∃ wo : World, wo = w := ⟨_, rfl⟩
  clear hr hh
  cases hok : storyOk p (qs.map (·.2)) with
  | false =>
    have Hf := Lib.hid (needL_no hok)
    rw [hok] at hso
    have Hso := Lib.hid hso; clear hso hok
    go_enter Try.func30, Try.ntmps30
    go_wp2_with fail
    refine (Hso.out _ Hr.out hB).mono ?_
    rintro e w2 ⟨rfl, hb2⟩
    have Hb2 := Lib.hid hb2; clear hb2
    go_wp2
    go_ret
    exact ⟨_, rfl, by rw [Hf.out]; exact World.ownsRow_nil _ _ _ _, Hb2.out⟩
  | true =>
    have hn6 := storyOk_len hok
    have Hf := Lib.hid (needL_yes hok)
    have hlq : (qs.map (·.2)).length = qs.length := List.length_map _
    rw [hlq] at Hf
    have Hna := Lib.hid (fun k hk w h hB => implNeedlessAt p qs k hk hok B (.slice ao qs.length cap) w h hB)
    rw [hok] at hso
    have Hso := Lib.hid hso; clear hso hok hlq
    have Hsu := Lib.hid (needF_succ p (qs.map (·.2)))
    generalize qs.map (·.2) = s at *
    generalize hn : qs.length = n at *
    clear hn
    go_enter Try.func30, Try.ntmps30
    go_wp2_with fail
    refine (Hso.out _ Hr.out hB).mono ?_
    rintro e w2 ⟨rfl, hb2⟩
    have Hb2 := Lib.hid hb2; clear hb2
    go_wp2
    go_loopw [5, 6, 13] (fun u _ i wr => ∃ k : Nat, k ≤ n ∧ i = .int .i64 k ∧ wr.ownsRow wo.heap.size 3 1 u (needF p s k).length (vals (needF p s k)) ∧ Below wo.heap.size wo wr) (fun _ _ i _ => n - (intOf i).toNat)
    case atStart => exact ⟨0, Nat.zero_le _, rfl, World.ownsRow_nil _ _ _ _, Hb2.out⟩
    case round =>
      obtain ⟨k, hk, rfl, hown, hbr⟩ := hrel
      have Hown := Lib.hid hown
      have Hbr := Lib.hid hbr
      have hsr := hbr.size
      have Hr1 := Lib.hid (Hr.out.below (w' := wr) (fun q hq => hbr.block q (by omega)))
      clear hown hbr
      by_cases hlt : k < n
      · have hnl := needF_len p s k
        have hsu := Hsu.out k
        have Hnc := Lib.hid (Hna.out k hlt _ Hr1.out (by omega))
        generalize needB p s k = nb at *
        cases nb with
        | true =>
          rw [if_pos rfl] at hsu
          have Hsu1 := Lib.hid hsu
          clear hsu
          go_wp2_with fail
          refine Hnc.out.mono ?_
          rintro e w5 ⟨rfl, hb5⟩
          have hs5 := hb5.size
          have Hown5 := Lib.hid (own_below Hown.out hb5)
          have Hb5 := Lib.hid (Hbr.out.trans (hb5.mono hsr))
          clear hb5
          go_wp2_with (at_builtin; refine wpList_append_own _ rfl _ _ 36 rfl wo.heap.size 3 i0 (.int .i64 0) 1 8 Try.underlying36 Hi.out Hz0.out Hz1.out Hz2.out rfl (by decide) _ _ _ rfl (Hown5.out.alloc _) ⟨w5.heap.size, 0, none⟩ 1 1 [.int .i64 k] rfl rfl (news1 _ _ rfl _ _) (by simp [Value.oneCell']) (by unfold maxLen; omega) (by omega) (by simp; omega) ?_)
          intro v' w6 hown6 hgr6 _
          have Hb6 := Lib.hid (below_grown_row (Hb5.out.alloc (by omega) _) hgr6 (by simp; omega) (fun q hq => (Hown5.out.lt q hq).1))
          have Hown6 : Hid (w6.ownsRow wo.heap.size 3 1 v' (needF p s (k + 1)).length (vals (needF p s (k + 1)))) := by
            unfold Hid
            rw [Hsu1.out, List.length_append, show vals (needF p s k ++ [k]) = vals (needF p s k) ++ [.int .i64 k] by simp [vals]]
            exact hown6
          clear hown6 hgr6
          go_wp2
          go_roundw
          case rel => exact ⟨k + 1, by omega, by go_num, Hown6.out, Hb6.out⟩
          case measure => simp [intOf]; omega
        | false =>
          rw [if_neg (by simp), List.append_nil] at hsu
          have Hsu1 := Lib.hid hsu
          clear hsu
          go_wp2_with fail
          refine Hnc.out.mono ?_
          rintro e w5 ⟨rfl, hb5⟩
          have hs5 := hb5.size
          have Hown5 := Lib.hid (own_below Hown.out hb5)
          have Hb5 := Lib.hid (Hbr.out.trans (hb5.mono hsr))
          clear hb5
          go_wp2
          go_roundw
          case rel => exact ⟨k + 1, by omega, by go_num, by rw [Hsu1.out]; exact Hown5.out, Hb5.out⟩
          case measure => simp [intOf]; omega
      · obtain rfl : k = n := by omega
        go_wp2
        go_ret
        exact ⟨_, rfl, by rw [Hf.out]; exact Hown.out, Hbr.out⟩
theorem rd_drewI {w : World} {B : Nat} {u : Value} {ms : List (Int × Int)} (h : RdMarks w B u ms) (k : Nat) : RdMarks (w.drewN k) B u ms := h
set_option maxRecDepth 100000 in
set_option maxHeartbeats 8000000 in
theorem implOwnStory (qs : List QC) (hn6 : qs.length ≤ 6) (Hms : Hid (∀ j, j < qs.length → (qs.getD j qc0).2.2.length ≤ 15)) (B : Nat) (v : Value) (w : World) (hr : RdStory w B v qs) (hB : B ≤ w.heap.size) :
    Calls Try.prog 64 #[v] w fun e w' => ∃ u us, e = .returned u ∧ us.map (·.2) = qs.map (·.2) ∧ StoryIn w' w.heap.size w.heap.size u us ∧ Apart us ∧ Below w.heap.size w w' := by
  obtain ⟨ic, hci, hcz0, hcz1, hcz2⟩ := info_parts Try.infoC
  have Ci := Lib.hid hci; clear hci
  have Cz0 := Lib.hid hcz0; clear hcz0
  have Cz1 := Lib.hid hcz1; clear hcz1
  have Cz2 := Lib.hid hcz2; clear hcz2
  have Hr := Lib.hid hr
  obtain ⟨ao, cap, rfl, hl, hm, _, hac0⟩ := hr
  have hac := Lib.hid hac0; clear hac0
  unfold maxLen at hm
  obtain ⟨wo, rfl⟩ : ∃ wo : World, wo = w := ⟨_, rfl⟩
  go_enter Try.func64, Try.ntmps64
  go_wp2
  go_loopw [3, 5, 8] (fun u _ i wr => ∃ (j : Nat) (us : List QC), j ≤ qs.length ∧ i = .int .i64 j ∧ us.map (·.2) = (qs.take j).map (·.2) ∧ StoryIn wr wo.heap.size wo.heap.size u us ∧ Apart us ∧ Below wo.heap.size wo wr) (fun _ _ i _ => qs.length - (intOf i).toNat)
  case atStart => exact ⟨0, [], Nat.zero_le _, rfl, rfl, StoryIn.nil _ _ _, List.Pairwise.nil, Below.refl _ _⟩
  case round =>
    obtain ⟨j, us, hj, rfl, hum, hst, hap, hbr⟩ := hrel
    have hul : us.length = j := by
      have := congrArg List.length hum
      simpa [Nat.min_eq_left hj] using this
    by_cases hlt : j < qs.length
    · obtain ⟨b, off, rfl, hb, hc1, hc2⟩ := hac.out j hlt
      rw [← hbr.cell (p := ⟨b, _, none⟩) (show b < _ by omega)] at hc1 hc2
      have hsr := hbr.size
      have hmk := (Hr.out.get hlt).1.below (w' := wr) (fun q hq => hbr.block q (by omega))
      have hik := (Hr.out.get hlt).2
      have hlen := Hms.out j hlt
      have hsucc : (qs.take (j + 1)).map (·.2) = (qs.take j).map (·.2) ++ [(qs.getD j qc0).2] := by
        have e : qs.getD j qc0 = qs[j] := by simp [List.getD, hlt]
        rw [List.take_succ_eq_append_getElem hlt, List.map_append, e]
        rfl
      generalize qs.getD j qc0 = z at *
      obtain ⟨y, k, ms⟩ := z
      dsimp only at hc1 hc2 hmk hik hlen
      have hsucc' : (qs.take (j + 1)).map (·.2) = (qs.take j).map (·.2) ++ [(k, ms)] := hsucc
      have HI : Hid (I64s ms) := by obtain ⟨_, _, _, _, _, h, _⟩ := hmk; exact h
      have Hik := Lib.hid hik
      have Hst := Lib.hid hst
      have Hap := Lib.hid hap
      have Hbr := Lib.hid hbr
      have Hum := Lib.hid hum
      have Hsucc := Lib.hid hsucc'
      have Hmk := Lib.hid hmk
      clear hmk hst hap hbr hum hsucc hsucc' hik
      obtain ⟨vo, vc, hvf⟩ := own_len Hst.out.1
      rw [hul] at hvf
      subst hvf
      have HU := Lib.hid hul
      have hj6 : j ≤ 6 := by omega
      clear hul
      obtain ⟨ao1, cap1, rfl⟩ : ∃ ao1 cap1, y = .slice ao1 ms.length cap1 := by
        obtain ⟨a, c, h, _⟩ := Hmk.out
        exact ⟨a, c, h⟩
      go_upto_region 5 with fail
      obtain ⟨w1, hw1, n1, n2, hbw, hsz⟩ := new_two wr (.int .i64 k) (.slice ao1 ms.length cap1) TC
      rw [← hw1]
      have hB1 : B ≤ w1.heap.size := by omega
      have hs1 := hbw.size
      have Hr1 := Lib.hid (Hmk.out.below (w' := w1) (fun q hq => hbw.block q (by omega)))
      have Hst1 := Lib.hid (Hst.out.below hbw)
      have Hbr1 := Lib.hid (Hbr.out.trans (hbw.mono hsr))
      have N1 := Lib.hid n1
      have N2 := Lib.hid n2
      have hszr : wr.heap.size < w1.heap.size := hsz
      clear hw1 hc1 hc2 hbw hsz
      go_region_held3 (fun w' => w'.cell? ⟨wr.heap.size, 0, none⟩ = some (.int .i64 k) ∧ w'.cell? ⟨wr.heap.size, 1, none⟩ = some (.slice ao1 ms.length cap1))
        (first | (refine ⟨?_, ?_⟩ <;> first | go_keep | assumption) | assumption)
        (first
          | (go_at_call 83
             (with_reducible refine (implClone ms B (.slice ao1 ms.length cap1) _ ?_ ?_ ?_).mono ?_)
             · first | exact Hr1.out | exact rd_drewI Hr1.out _
             · exact hB1
             · omega
             rintro e w4 ⟨v4, rfl, hown4, hb4⟩
             go_must (have hb4' : Below w1.heap.size w1 w4 := by first | exact hb4 | exact below_undrewS hb4 | exact below_undrewN hb4
                      have hown4' : w4.ownsRow w1.heap.size TM 2 v4 ms.length (mcells ms) := hown4
                      have hap4 := Lib.hid (Hap.out.snoc (q := (v4, (k, ms))) (s := w1.heap.size) (fun r hr x hx => Nat.lt_trans (((Hst.out.2 r hr).1.lt x hx).2) hszr) (fun x hx => (hown4'.lt x hx).1))
                      have m1 := (hb4'.cell (p := ⟨wr.heap.size, 0, none⟩) hszr).trans N1.out
                      have m2 := (hb4'.cell (p := ⟨wr.heap.size, 1, none⟩) hszr).trans N2.out
                      have hs4 := hb4'.size
                      obtain ⟨f4, p4, hv4⟩ := own_len hown4'
                      subst hv4
                      have HO4 := Lib.hid hown4'
                      have HS4 := Lib.hid (Hst1.out.below hb4')
                      have HB4 := Lib.hid (Hbr1.out.trans (hb4'.mono (by omega)))
                      have HV4 : Hid (w4.ownsRow wo.heap.size TC 2 (.slice vo j vc) j (ccells us)) := by
                        have h := HS4.out.1
                        rw [HU.out] at h
                        exact h
                      clear hown4 hown4' hb4 hb4'))
          | (refine app_own (by rfl) (.tmp 12) (.tmp 19) 23 TC wo.heap.size 2 32 (.agg #[.int .i64 0, .slice none 0 0]) (by rfl) Try.underlying23 Ci.out Cz0.out Cz1.out Cz2.out rfl (by decide) (by rfl) (by rfl) (by first | exact HV4.out.alloc _ | exact own_drewU (HV4.out.alloc _) _) (m := 1) (news := ccells [(.slice f4 ms.length p4, (k, ms))]) (by rw [ccells_length]; rfl) (by first | exact newsC _ _ rfl _ _ _ _) (ccells_one (by simp [Value.oneCell'])) (by unfold maxLen; omega) (by omega) (by simp; omega) ?_
             go_must (intro v5 w5 hown5 hgr5 _
                      have Hout := Lib.hid (And.intro ((HS4.out.alloc (.cells #[.int .i64 k, .slice f4 ms.length p4] TC)).push (q := (.slice f4 ms.length p4, (k, ms))) ⟨own_mono (HO4.out.alloc _) (by omega), HI.out, Hik.out⟩ (by rw [HU.out]; exact hown5) (by first | exact hgr5 | exact grownBy_drew0 hgr5 | exact grownBy_drewX hgr5)) (below_grown_row (w1 := w4.alloc (.cells #[.int .i64 k, .slice f4 ms.length p4] TC)) (HB4.out.alloc (by omega) _) (by first | exact hgr5 | exact grownBy_drew0 hgr5 | exact grownBy_drewX hgr5) (by simp; omega) (fun q hq => (HS4.out.1.lt q hq).1)))
                      have hg5 : (w4.alloc (.cells #[.int .i64 k, .slice f4 ms.length p4] TC)).grownBy w5 (Value.slice vo j vc).ownBlock := by first | exact hgr5 | exact grownBy_drew0 hgr5 | exact grownBy_drewX hgr5
                      have q1 := ((hg5.cell_far ⟨wr.heap.size, 0, none⟩ (by simp; omega) (fun e => by have := (Hst.out.1.lt _ e.symm).2; simp at this)).trans (World.cell?_alloc_lt w4 _ ⟨wr.heap.size, 0, none⟩ (by simp; omega))).trans m1
                      have q2 := ((hg5.cell_far ⟨wr.heap.size, 1, none⟩ (by simp; omega) (fun e => by have := (Hst.out.1.lt _ e.symm).2; simp at this)).trans (World.cell?_alloc_lt w4 _ ⟨wr.heap.size, 1, none⟩ (by simp; omega))).trans m2
                      clear hg5
                      clear hown5 hgr5))
          | fail)
      go_wp2
      go_roundw
      case rel => exact ⟨j + 1, us ++ [(.slice f4 ms.length p4, (k, ms))], by omega, by go_num, by rw [List.map_append, Hum.out, Hsucc.out]; rfl, Hout.out.1, hap4.out, Hout.out.2⟩
      case measure => simp [intOf]; omega
    · obtain rfl : j = qs.length := by omega
      rw [List.take_length] at hum
      have Hum := Lib.hid hum
      have Hst := Lib.hid hst
      have Hap := Lib.hid hap
      have Hbr := Lib.hid hbr
      clear hum hst hap hbr
      go_wp2
      go_ret
      exact ⟨_, rfl, us, Hum.out, Hst.out, Hap.out, Hbr.out⟩
theorem story_says {p : Int} {qs : List QC} (hok : storyOk p (qs.map (·.2)) = true) : ∀ j, j < qs.length → (qs.getD j qc0).2.2.length ≤ 15 := fun j hj => by
  have e : qs.getD j qc0 = qs[j] := by simp [List.getD, hj]
  have := (storyOk_iff.1 hok).1 qs[j].2 (List.mem_map.2 ⟨_, List.getElem_mem hj, rfl⟩)
  obtain ⟨_, _, _, h4⟩ := claimOk_iff.1 this
  rw [e]; omega
set_option maxRecDepth 100000 in
set_option maxHeartbeats 4000000 in
theorem implLeast (p : Int) (qs : List QC) (B : Nat) (v : Value) (w : World) (hr : RdStory w B v qs) (hB : B ≤ w.heap.size) :
    Calls Try.prog 35 #[.int .i64 p, v] w fun e w' => ∃ u us, e = .returned (.tuple #[u, .bool (storyOk p (qs.map (·.2)))]) ∧ us.map (·.2) = leastV p (qs.map (·.2)) ∧ StoryIn w' w.heap.size w.heap.size u us ∧ Apart us ∧ Below w.heap.size w w' := by
  have hso := fun w h hB => implStoryOk p qs B v w h hB
  cases hok : storyOk p (qs.map (·.2)) with
  | false =>
    have Hf := Lib.hid (leastV_no hok)
    rw [hok] at hso
    have Hso := Lib.hid hso; clear hso hok
    go_enter Try.func35, Try.ntmps35
    go_wp2_with fail
    refine (Hso.out _ hr hB).mono ?_
    rintro e w2 ⟨rfl, hb2⟩
    have Hb2 := Lib.hid hb2; clear hb2
    go_wp2
    go_ret2
    exact ⟨_, [], rfl, by rw [Hf.out]; rfl, StoryIn.nil _ _ _, List.Pairwise.nil, Hb2.out⟩
  | true =>
    have hn6 := storyOk_len hok
    have Hf := Lib.hid (leastV_yes hok)
    have Hfin := Lib.hid (least_QN (p := p) (us := qs) rfl)
    have Hok := Lib.hid hok
    rw [hok] at hso
    have Hso := Lib.hid hso; clear hso hok
    have Hr := Lib.hid hr
    obtain ⟨ao, cap, rfl, hl, hm, _⟩ := hr
    unfold maxLen at hm
    obtain ⟨wo, rfl⟩ : ∃ wo : World, wo = w := ⟨_, rfl⟩
    go_enter Try.func35, Try.ntmps35
    go_wp2_with fail
    refine (Hso.out _ Hr.out hB).mono ?_
    rintro e w2 ⟨rfl, hb2⟩
    have Hr2 := Lib.hid ((Hr.out.below (w' := w2) (fun q hq => hb2.block q (by omega))).mono (B' := w2.heap.size) (by have := hb2.size; omega))
    have Hb2 := Lib.hid hb2; clear hb2
    go_wp2
    go_loopw [6, 7] (fun u i wr => ∃ (n : Nat) (zs : List QC), n ≤ zs.length ∧ zs.length ≤ 6 ∧ i = .int .i64 n ∧ (∃ a c, u = .slice a zs.length c) ∧ RdStory wr wr.heap.size u zs ∧ Hid (storyOk p (zs.map (·.2)) = true) ∧ Hid (leastR (QN p) (zs.take n) (zs.drop n) = leastR (QN p) [] qs) ∧ Below wo.heap.size wo wr) (fun u i _ => lenV u - (intOf i).toNat)
    case atStart => exact ⟨0, qs, Nat.zero_le _, hn6, rfl, ⟨_, _, rfl⟩, Hr2.out, Hok, rfl, Hb2.out⟩
    case round =>
      clear Hr2 Hb2 Hr Hso
      obtain ⟨n, zs, hnz, hz6, rfl, ⟨za, zc, rfl⟩, hst, hokz, hls, hbr⟩ := hrel
      have hsr := hbr.size
      have Hst := Lib.hid hst
      have Hbr := Lib.hid hbr
      clear hst hbr
      by_cases hlt : n < zs.length
      · have Hstep := Lib.hid (least_step (QN p) hlt)
        have Hl1 := Lib.hid (woL_len hlt)
        have Hokw : Hid (storyOk p ((woL zs n).map (·.2)) = true) := by unfold Hid; rw [woL_map]; exact woL_ok hokz.out
        have Hwi := Lib.hid (fun w h => implWithoutK zs n hlt hz6 w.heap.size (.slice za zs.length zc) w h (Nat.le_refl _))
        have Hna := Lib.hid (fun w h => implNeedlessAt p zs n hlt hokz.out w.heap.size (.slice za zs.length zc) w h (Nat.le_refl _))
        have Hnb : Hid (needB p (zs.map (·.2)) n = decide (QN p (woL zs n) = QN p zs)) := by unfold Hid QN; rw [woL_map]; rfl
        generalize needB p (zs.map (·.2)) n = nb at *
        generalize QN p (woL zs n) = T1 at *
        generalize QN p zs = T2 at *
        go_wp2_with fail
        refine (Hna.out _ Hst.out).mono ?_
        rintro e w3 ⟨rfl, hb3⟩
        have hs3 := hb3.size
        have Hb3 := Lib.hid (Hbr.out.trans (hb3.mono hsr))
        have Hst3 := Lib.hid (Hst.out.kept5 hb3)
        clear hb3
        cases nb with
        | true =>
          have hT : T1 = T2 := of_decide_eq_true Hnb.out.symm
          have Hst' : Hid (leastR (QN p) (zs.take n) (zs.drop n) = leastR (QN p) ((woL zs n).take n) ((woL zs n).drop n)) := by unfold Hid; rw [Hstep.out, if_pos hT]
          clear Hstep Hnb hT
          go_wp2_with fail
          refine (Hwi.out _ Hst3.out).mono ?_
          rintro e w4 ⟨u4, rfl, hown4, hb4⟩
          obtain ⟨a4, c4, hv4⟩ := own_len hown4
          have hs4 := hb4.size
          have Hb4 := Lib.hid (Hb3.out.trans (hb4.mono (by omega)))
          have Hw4 : Hid (RdStory w4 w4.heap.size u4 (woL zs n)) := rdStory_own hown4 Hl1.out.symm (fun q hq => ⟨((Hst3.out.kept5 hb4).marks q (woL_mem hq)).1, ((Hst3.out.kept5 hb4).marks q (woL_mem hq)).2⟩)
          subst hv4
          clear hown4 hb4
          go_wp2
          go_roundw
          case rel => exact ⟨n, woL zs n, by rw [Hl1.out]; omega, by rw [Hl1.out]; omega, by go_num, ⟨a4, c4, by rw [Hl1.out]⟩, Hw4.out, Hokw, by unfold Hid; rw [← Hst'.out]; exact hls.out, Hb4.out⟩
          case measure => simp [lenV, intOf]; omega
        | false =>
          have hT : ¬ T1 = T2 := of_decide_eq_false Hnb.out.symm
          have Hst' : Hid (leastR (QN p) (zs.take n) (zs.drop n) = leastR (QN p) (zs.take (n + 1)) (zs.drop (n + 1))) := by unfold Hid; rw [Hstep.out, if_neg hT]
          clear Hstep Hnb hT
          go_wp2
          go_roundw
          case rel => exact ⟨n + 1, zs, by omega, by omega, by go_num, ⟨_, _, rfl⟩, Hst3.out, hokz, by unfold Hid; rw [← Hst'.out]; exact hls.out, Hb3.out⟩
          case measure => simp [lenV, intOf]; omega
      · obtain rfl : n = zs.length := by omega
        have hz := hls.out
        rw [least_done] at hz
        have Hz := Lib.hid hz
        have Hos := Lib.hid (fun w h => implOwnStory zs hz6 (story_says hokz.out) w.heap.size (.slice za zs.length zc) w h (Nat.le_refl _))
        clear hz
        go_wp2_with fail
        refine (Hos.out _ Hst.out).mono ?_
        rintro e w4 ⟨u4, us, rfl, hum, hst4, hap, hb4⟩
        have Hout := Lib.hid (And.intro (hst4.mono hsr hsr) (And.intro hap (Hbr.out.trans (hb4.mono hsr))))
        have Hum := Lib.hid hum
        clear hum hst4 hap hb4
        go_wp2
        go_ret2
        exact ⟨_, us, rfl, by rw [Hum.out, Hz.out, Hfin.out, Hf.out], Hout.out.1, Hout.out.2.1, Hout.out.2.2⟩
end Go.Proofs.Ytncihjelpaiocaa

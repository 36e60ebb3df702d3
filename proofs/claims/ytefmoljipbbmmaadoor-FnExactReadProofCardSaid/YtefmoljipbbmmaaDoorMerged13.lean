/- Texts of a proof, merged: ProveO, Splits, ProveH, ProveL, ProveK. -/
import Derived.Test.YtefmoljipbbmmaaDoorMerged11
import Derived.Test.YtefmoljipbbmmaaDoorMerged0
import Derived.Test.YtefmoljipbbmmaaDoorMerged12
/- Proofs by cases: that no split is gone on to from two, step by step; without code. -/
namespace Go.Proofs.YtefmoljipbbmmaaDoor
open Go.RowKit
def nx11 (s : Sp3) (side : Nat) : Int := if side = 1 then s.2.2 else s.2.1
/-- the places gone on to from the first k splits, and from the first sides of the next one -/
def nextsTo (sp : List Sp3) (k side : Nat) : List Int := nexts (sp.take k) ++ ((List.range side).map (nx11 (sp.getD k sp0))).filter fun x => decide (0 ≤ x)
def goodN (n : Nat) (l : List Int) : Bool := (l.all fun x => decide (x < n)) && decide l.Nodup
theorem onceB_good (sp : List Sp3) : onceB sp = goodN sp.length (nexts sp) := rfl
theorem nextsTo_start (sp : List Sp3) : nextsTo sp 0 0 = [] := rfl
theorem nextsTo_step {sp : List Sp3} {k side : Nat} : nextsTo sp k (side + 1) = nextsTo sp k side ++ (if 0 ≤ nx11 (sp.getD k sp0) side then [nx11 (sp.getD k sp0) side] else []) := by
  unfold nextsTo
  rw [List.range_succ, List.map_append, List.filter_append, List.append_assoc]
  congr 2
  generalize nx11 (sp.getD k sp0) = f
  by_cases h : 0 ≤ f side
  · rw [if_pos h]; simp [h]
  · rw [if_neg h]; simp; omega
theorem nextsTo_next {sp : List Sp3} {k : Nat} (hk : k < sp.length) : nextsTo sp k 2 = nextsTo sp (k + 1) 0 := by
  unfold nextsTo
  rw [List.take_succ_eq_append_getElem hk, nexts_append]
  have e : sp.getD k sp0 = sp[k] := by simp [List.getD, hk]
  rw [e]
  simp [nexts, nx11, List.range_succ]
theorem nextsTo_end (sp : List Sp3) : nextsTo sp sp.length 0 = nexts sp := by unfold nextsTo; simp
theorem nextsTo_prefix {sp : List Sp3} {k side : Nat} (hk : k < sp.length) (hs : side ≤ 2) : ∃ r, nexts sp = nextsTo sp k side ++ r := by
  have e : sp.getD k sp0 = sp[k] := by simp [List.getD, hk]
  have hsplit : nexts sp = nexts (sp.take k) ++ (nexts [sp[k]] ++ nexts (sp.drop (k + 1))) := by
    rw [← nexts_append, ← nexts_append]
    congr 1
    rw [List.singleton_append, ← List.drop_eq_getElem_cons hk, List.take_append_drop]
  have h2 : nexts [sp[k]] = ((List.range 2).map (nx11 (sp.getD k sp0))).filter fun x => decide (0 ≤ x) := by
    rw [e]; simp [nexts, nx11, List.range_succ]
  have h3 : ∃ r, (((List.range 2).map (nx11 (sp.getD k sp0))).filter fun x => decide (0 ≤ x)) = (((List.range side).map (nx11 (sp.getD k sp0))).filter fun x => decide (0 ≤ x)) ++ r := by
    have : List.range 2 = List.range side ++ (List.range 2).drop side := by
      have h : side = 0 ∨ side = 1 ∨ side = 2 := by omega
      rcases h with rfl | rfl | rfl <;> rfl
    rw [this, List.map_append, List.filter_append]
    exact ⟨_, rfl⟩
  obtain ⟨r, hr⟩ := h3
  refine ⟨r ++ nexts (sp.drop (k + 1)), ?_⟩
  rw [hsplit, h2, hr]
  unfold nextsTo
  simp
theorem good_prefix {n : Nat} {a b : List Int} (h : goodN n (a ++ b) = true) : goodN n a = true := by
  unfold goodN at h ⊢
  rw [Bool.and_eq_true, List.all_append, Bool.and_eq_true, decide_eq_true_eq, List.nodup_append] at h
  rw [Bool.and_eq_true, decide_eq_true_eq]
  exact ⟨h.1.1, h.2.1⟩
theorem good_snoc {n : Nat} {a : List Int} {x : Int} (h : goodN n a = true) (hx : x < n) (hm : x ∉ a) : goodN n (a ++ [x]) = true := by
  unfold goodN at h ⊢
  rw [Bool.and_eq_true, decide_eq_true_eq] at h
  rw [Bool.and_eq_true, decide_eq_true_eq, List.all_append, h.1, List.nodup_append]
  refine ⟨by simp [hx], h.2, by simp, fun y hy z hz => ?_⟩
  rw [List.mem_singleton] at hz
  subst hz
  exact fun he => hm (he ▸ hy)
theorem bad_snoc {n : Nat} {a : List Int} {x : Int} (h : ¬ x < n ∨ x ∈ a) : goodN n (a ++ [x]) = false := by
  cases hg : goodN n (a ++ [x]) with
  | false => rfl
  | true =>
    unfold goodN at hg
    rw [Bool.and_eq_true, decide_eq_true_eq, List.all_append, List.nodup_append, Bool.and_eq_true] at hg
    rcases h with h | h
    · have := hg.1.2
      simp at this
      exact absurd this h
    · exact absurd rfl (hg.2.2.2 x h x (List.mem_singleton.2 rfl))
/-- one further place that is gone on to -/
theorem once_step {sp : List Sp3} {k side : Nat} (hk : k < sp.length) (hs : side < 2) (h : ¬ nx11 (sp.getD k sp0) side < sp.length ∨ nx11 (sp.getD k sp0) side ∈ nextsTo sp k side) (h0 : 0 ≤ nx11 (sp.getD k sp0) side) : onceB sp = false := by
  have e := nextsTo_step (sp := sp) (k := k) (side := side)
  rw [if_pos h0] at e
  have hb := bad_snoc h
  rw [← e] at hb
  obtain ⟨r, hr⟩ := nextsTo_prefix (sp := sp) (k := k) (side := side + 1) hk (by omega)
  cases ho : onceB sp with
  | false => rfl
  | true =>
    rw [onceB_good, hr] at ho
    rw [good_prefix ho] at hb; cases hb
theorem once_end {sp : List Sp3} (h : goodN sp.length (nextsTo sp sp.length 0) = true) : onceB sp = true := by rw [onceB_good, ← nextsTo_end]; exact h
/-- the row of what was gone on to -/
def seenL (n : Nat) (l : List Int) : List Value := (List.range n).map fun i : Nat => Value.bool (decide ((i : Int) ∈ l))
theorem seenL_nil (n : Nat) : seenL n [] = List.replicate n (.bool false) := by
  unfold seenL
  refine List.ext_getElem (by simp) fun i h1 h2 => by simp
theorem seenL_len (n : Nat) (l : List Int) : (seenL n l).length = n := by simp [seenL]
theorem seenL_get {n : Nat} {l : List Int} {i : Nat} (hi : i < n) : (seenL n l)[i]? = some (.bool (decide ((i : Int) ∈ l))) := by simp [seenL, hi]
theorem seenL_set {n : Nat} {l : List Int} {i : Nat} (_hi : i < n) : (seenL n l).set i (.bool true) = seenL n (l ++ [(i : Int)]) := by
  refine List.ext_getElem (by simp [seenL]) fun j h1 h2 => ?_
  rw [List.getElem_set]
  by_cases h : i = j
  · subst h; rw [if_pos rfl]; simp [seenL]
  · rw [if_neg h]
    have : ((j : Int) = (i : Int)) = False := by simp; omega
    simp [seenL, this]
end Go.Proofs.YtefmoljipbbmmaaDoor
/- Splits in memory: rows of three numbers each. -/
namespace Go.Proofs.YtefmoljipbbmmaaDoor
open Go.RowKit
def S64 (sp : List Sp3) : Prop := ∀ s ∈ sp, I64 s.1 ∧ I64 s.2.1 ∧ I64 s.2.2
def scells : List Sp3 → List Value
  | [] => []
  | s :: r => .int .i64 s.1 :: .int .i64 s.2.1 :: .int .i64 s.2.2 :: scells r
theorem scells_length (sp : List Sp3) : (scells sp).length = sp.length * 3 := by
  induction sp with
  | nil => rfl
  | cons m r ih => simp [scells, ih]; omega
theorem scells_append (xs ys : List Sp3) : scells (xs ++ ys) = scells xs ++ scells ys := by
  induction xs with
  | nil => rfl
  | cons m r ih => simp [scells, ih]
theorem scells_get (sp : List Sp3) : ∀ j, j < sp.length → (scells sp)[j * 3]? = some (.int .i64 (sp.getD j sp0).1) ∧ (scells sp)[j * 3 + 1]? = some (.int .i64 (sp.getD j sp0).2.1) ∧ (scells sp)[j * 3 + 2]? = some (.int .i64 (sp.getD j sp0).2.2) := by
  induction sp with
  | nil => intro j hj; simp at hj
  | cons m r ih =>
    intro j hj
    cases j with
    | zero => simp [scells]
    | succ j =>
      have := ih j (by simpa using hj)
      have e1 : (j + 1) * 3 = j * 3 + 1 + 1 + 1 := by omega
      rw [e1, show j * 3 + 1 + 1 + 1 + 1 = (j * 3 + 1) + 1 + 1 + 1 by omega, show j * 3 + 1 + 1 + 1 + 2 = (j * 3 + 2) + 1 + 1 + 1 by omega]
      simpa [scells] using this
theorem scells_one (sp : List Sp3) : ∀ u ∈ scells sp, u.oneCell' = true := by
  induction sp with
  | nil => intro u hu; simp [scells] at hu
  | cons m r ih =>
    intro u hu
    simp only [scells, List.mem_cons] at hu
    rcases hu with rfl | rfl | rfl | hu
    · rfl
    · rfl
    · rfl
    · exact ih u hu
theorem scells_set (A R : List Sp3) (m m' : Sp3) (k : Nat) (hk : A.length = k) :
    (((scells (A ++ m :: R)).set (k * 3) (.int .i64 m'.1)).set (k * 3 + 1) (.int .i64 m'.2.1)).set (k * 3 + 2) (.int .i64 m'.2.2) = scells (A ++ m' :: R) := by
  have hl : (scells A).length = k * 3 := by rw [scells_length, hk]
  rw [scells_append, scells_append]
  simp only [scells]
  rw [← hl, List.set_append_right _ _ (by omega), List.set_append_right _ _ (by omega), List.set_append_right _ _ (by omega)]
  simp [show (scells A).length + 1 - (scells A).length = 1 by omega, show (scells A).length + 2 - (scells A).length = 2 by omega]
/-- a value tells these splits, in blocks below B -/
def RdSplits (w : World) (B : Nat) (v : Value) (sp : List Sp3) : Prop :=
  ∃ ao cap, v = .slice ao sp.length cap ∧ sp.length ≤ cap ∧ cap ≤ maxLen ∧ S64 sp ∧
    ∀ j, j < sp.length → ∃ b off, ao = some ⟨b, off, none⟩ ∧ b < B ∧ w.cell? ⟨b, off + j * 3, none⟩ = some (.int .i64 (sp.getD j sp0).1) ∧ w.cell? ⟨b, off + j * 3 + 1, none⟩ = some (.int .i64 (sp.getD j sp0).2.1) ∧ w.cell? ⟨b, off + j * 3 + 2, none⟩ = some (.int .i64 (sp.getD j sp0).2.2)
theorem RdSplits.below {w w' : World} {B : Nat} {v : Value} {sp : List Sp3} (h : RdSplits w B v sp) (hb : ∀ k, k < B → w'.heap[k]? = w.heap[k]?) : RdSplits w' B v sp := by
  obtain ⟨ao, cap, hv, hl, hm, hi, hc⟩ := h
  refine ⟨ao, cap, hv, hl, hm, hi, fun j hj => ?_⟩
  obtain ⟨b, off, ha, hB, hc1, hc2, hc3⟩ := hc j hj
  exact ⟨b, off, ha, hB, by rw [← hc1]; exact World.cell?_of_block (w := w) (hb b hB), by rw [← hc2]; exact World.cell?_of_block (w := w) (hb b hB), by rw [← hc3]; exact World.cell?_of_block (w := w) (hb b hB)⟩
theorem RdSplits.mono {w : World} {B B' : Nat} {v : Value} {sp : List Sp3} (h : RdSplits w B v sp) (hB : B ≤ B') : RdSplits w B' v sp := by
  obtain ⟨ao, cap, hv, hl, hm, hi, hc⟩ := h
  refine ⟨ao, cap, hv, hl, hm, hi, fun j hj => ?_⟩
  obtain ⟨b, off, ha, hb, hc1⟩ := hc j hj
  exact ⟨b, off, ha, by omega, hc1⟩
theorem RdSplits.of_own {w : World} {base : Nat} {e : TypeId} {v : Value} {sp : List Sp3} (h : w.ownsRow base e 3 v sp.length (scells sp)) (hi : S64 sp) : RdSplits w w.heap.size v sp := by
  rcases h.2 with ⟨rfl, hn⟩ | ⟨g, cap, cur, rfl, hb, hg, hnc, hcm, hcs, htake⟩
  · have : sp = [] := List.eq_nil_of_length_eq_zero hn
    subst this
    exact ⟨none, 0, rfl, Nat.le_refl _, by unfold maxLen; omega, hi, fun j hj => by simp at hj⟩
  · have key : ∀ (i : Nat) (u : Value), (scells sp)[i]? = some u → w.cell? ⟨g, 0 + i, none⟩ = some u := by
      intro i u h1
      rw [cell_of_row w g (0 + i) cur e (0, 0) hg]
      rw [← htake, List.getElem?_take] at h1
      split at h1
      · simpa using h1
      · cases h1
    refine ⟨_, cap, rfl, hnc, hcm, hi, fun j hj => ⟨g, 0, rfl, (Array.getElem?_eq_some_iff.1 hg).1, ?_, ?_, ?_⟩⟩
    · exact key _ _ (scells_get sp j hj).1
    · exact key _ _ (scells_get sp j hj).2.1
    · exact key _ _ (scells_get sp j hj).2.2
theorem RdSplits.s64 {w : World} {B : Nat} {v : Value} {sp : List Sp3} (h : RdSplits w B v sp) : S64 sp := by obtain ⟨_, _, _, _, _, hi, _⟩ := h; exact hi
theorem RdSplits.nil (w : World) (B : Nat) : RdSplits w B (.slice none 0 0) [] := ⟨none, 0, rfl, Nat.le_refl _, (by unfold maxLen; omega), (fun s hs => by cases hs), fun j hj => by simp at hj⟩
end Go.Proofs.YtefmoljipbbmmaaDoor
/- Contracts of the reference's proofs by cases: that no split is gone on to from two. -/
namespace Go.Proofs.YtefmoljipbbmmaaDoor
open Go.RowKit Go.Joins
theorem Tryd.infoBool : (Tryd.prog.info? 4).map (fun i => (i.zero, i.size, i.bytes)) = some (some (.bool false), 1, 1) := by kernel_rfl
theorem RdSplits.get {w : World} {B b off n cap j : Nat} {sp : List Sp3} (h : RdSplits w B (.slice (some ⟨b, off, none⟩) n cap) sp) (hj : j < sp.length) :
    w.cell? ⟨b, off + j * 3, none⟩ = some (.int .i64 (sp.getD j sp0).1) ∧ w.cell? ⟨b, off + j * 3 + 1, none⟩ = some (.int .i64 (sp.getD j sp0).2.1) ∧ w.cell? ⟨b, off + j * 3 + 2, none⟩ = some (.int .i64 (sp.getD j sp0).2.2) := by
  obtain ⟨ao, cap, hv, _, _, _, hc⟩ := h
  cases hv
  obtain ⟨b', off', ha, _, h3⟩ := hc j hj
  cases ha
  exact h3
set_option maxRecDepth 100000 in
set_option maxHeartbeats 1000000 in
theorem specOnce (sp : List Sp3) (fi : Int) (hn15 : sp.length ≤ 15) (B : Nat) (v : Value) (w : World) (hr : RdSplits w B v sp) (hB : B ≤ w.heap.size) :
    Calls Tryd.prog 42 #[.agg #[.int .i64 fi, v]] w fun e w' => e = .returned (.bool (onceB sp)) ∧ Below w.heap.size w w' := by
  obtain ⟨i0, hi, hz0, hz1, hz2⟩ := info_parts Tryd.infoBool
  have Hi := Lib.hid hi; clear hi
  have Hz0 := Lib.hid hz0; clear hz0
  have Hz1 := Lib.hid hz1; clear hz1
  have Hz2 := Lib.hid hz2; clear hz2
  have Hbad := Lib.hid (fun k side hk hs h h0 => once_step (sp := sp) (k := k) (side := side) hk hs h h0)
  have Hend := Lib.hid (fun h => once_end (sp := sp) h)
  have Hstep := Lib.hid (fun k side => nextsTo_step (sp := sp) (k := k) (side := side))
  have Hnext := Lib.hid (fun k hk => nextsTo_next (sp := sp) (k := k) hk)
  have H00 := Lib.hid (nextsTo_start sp)
  have Hnx0 : Hid (∀ k, nx11 (sp.getD k sp0) 0 = (sp.getD k sp0).2.1) := fun k => rfl
  have Hnx1 : Hid (∀ k, nx11 (sp.getD k sp0) 1 = (sp.getD k sp0).2.2) := fun k => rfl
  obtain ⟨ao, cap, rfl, hle, hm, _hi, hc0⟩ := hr
  have hc := Lib.hid hc0; clear hc0 _hi
  unfold maxLen at hm
  generalize onceB sp = R at *
  generalize hn : sp.length = n at *
  clear hn
  obtain ⟨wo, rfl⟩ : ∃ wo : World, wo = w := ⟨_, rfl⟩
  go_enter Tryd.func42, Tryd.ntmps42
  go_upto_region 1 with fail
  obtain ⟨w1, hw1, n1, n2, hbw, hsz⟩ := new_two wo (.int .i64 fi) (.slice ao n cap) 37
  rw [← hw1]
  have Hbw := Lib.hid hbw
  clear hw1
  go_wp2_with (at_make; refine wpList_make_full _ rfl _ _ 102 rfl w1.heap.size 4 i0 (.bool false) 1 Tryd.underlying102 Hi.out Hz0.out Hz1.out _ _ _ _ n rfl rfl rfl rfl ?b1 ?b2 ?b3 ?_)
  case b1 => rw [Hz2.out]; omega
  case b2 => unfold maxLen; omega
  intro w2 hown hgrow
  have hb1 : Below w1.heap.size w1 w2 := (Below.refl _ _).grown hgrow (Nat.le_refl _) (fun k hk => by cases hk)
  clear hgrow
  have hown0 : w2.ownsRow w1.heap.size 4 1 (.slice (some ⟨w1.heap.size, 0, none⟩) n n) n (seenL n (nextsTo sp 0 0)) := by
    have e : (madeCells #[Value.bool false] n).toList = seenL n (nextsTo sp 0 0) := by
      rw [toList_madeCells_one, H00.out, seenL_nil]
    rw [← e]; simpa [Value.cells] using hown
  clear hown
  obtain ⟨g, hg⟩ : ∃ g, g = w1.heap.size := ⟨_, rfl⟩
  rw [← hg] at hown0 hb1
  rw [← hg]
  have Hg := Lib.hid hg
  have hgs : wo.heap.size < g := by rw [hg]; exact hsz
  rw [hg] at hb1
  have hbg : Below g w1 w2 := by rw [Hg.out]; exact hb1
  have Hsz : Hid (w1.heap.size ≤ w2.heap.size) := hb1.size
  clear hb1 hg
  go_wp2
  go_loopw [4, 5, 6] (fun i _ _ wr => ∃ k : Nat, k ≤ n ∧ i = .int .i64 k ∧ wr.ownsRow g 4 1 (.slice (some ⟨g, 0, none⟩) n n) n (seenL n (nextsTo sp k 0)) ∧ Hid (goodN n (nextsTo sp k 0) = true) ∧ Below g w1 wr)
    (fun i _ _ _ => n - (intOf i).toNat)
  case atStart => exact ⟨0, Nat.zero_le _, rfl, hown0, (by unfold Hid; rw [H00.out]; rfl), hbg⟩
  case round =>
    obtain ⟨k, hk, rfl, hown, hgood, hb2⟩ := hrel
    have m2 := (hb2.cell (p := ⟨wo.heap.size, 0, none⟩) hgs).trans n1
    have m3 := (hb2.cell (p := ⟨wo.heap.size, 1, none⟩) hgs).trans n2
    by_cases hlt : k < n
    · obtain ⟨b, off, rfl, hb, hc1, hc2, hc3⟩ := hc.out k hlt
      have hg3 : Below wo.heap.size wo wr := Hbw.out.trans (hb2.mono (Nat.le_of_lt hgs))
      have HB3 := Lib.hid hg3
      have Hold := Lib.hid hb2
      clear hb2 hg3
      go_wp2
      go_loopw [5, 6] (fun i _ wr => ∃ side : Nat, side ≤ 2 ∧ i = .int .i64 side ∧ wr.ownsRow g 4 1 (.slice (some ⟨g, 0, none⟩) n n) n (seenL n (nextsTo sp k side)) ∧ Hid (goodN n (nextsTo sp k side) = true) ∧ Below g w1 wr)
        (fun i _ _ => 2 - (intOf i).toNat)
      case atStart => exact ⟨0, Nat.zero_le _, rfl, hown, hgood, Hold.out⟩
      case round =>
        clear hown hgood HB3 Hold m2 m3
        obtain ⟨side, hsd, rfl, hown, hgood, hb2⟩ := hrel
        have m2 := (hb2.cell (p := ⟨wo.heap.size, 0, none⟩) hgs).trans n1
        have m3 := (hb2.cell (p := ⟨wo.heap.size, 1, none⟩) hgs).trans n2
        have hold := Hbw.out.trans (hb2.mono (Nat.le_of_lt hgs))
        rw [← hold.cell (p := ⟨b, _, none⟩) (show b < _ by omega)] at hc1 hc2 hc3
        clear hold
        have hss : side = 0 ∨ side = 1 ∨ side = 2 := by omega
        clear hsd
        rcases hss with rfl | rfl | rfl
        · have hx := Hnx0.out k
          have hst := Hstep.out k 0
          have hbd := Hbad.out k 0 hlt (by omega)
          rw [hx] at hst hbd
          clear hx
          have Hst := Lib.hid hst
          have Hbd := Lib.hid hbd
          clear hst hbd
          generalize (sp.getD k sp0).2.1 = x at *
          by_cases hx0 : x < 0
          · have Ho : Hid (wr.ownsRow g 4 1 (.slice (some ⟨g, 0, none⟩) n n) n (seenL n (nextsTo sp k (0 + 1)))) := by
              unfold Hid; rw [Hst.out, if_neg (by omega), List.append_nil]; exact hown
            have Hgo : Hid (goodN n (nextsTo sp k (0 + 1)) = true) := by
              unfold Hid; rw [Hst.out, if_neg (by omega), List.append_nil]; exact hgood.out
            have Hb2 := Lib.hid hb2
            clear hown hgood hb2
            go_wp2
            go_roundw
            case rel => exact ⟨0 + 1, by omega, by go_num, Ho.out, Hgo.out, Hb2.out⟩
            case measure => simp [intOf]
          · by_cases hxn : x < (n : Int)
            · obtain ⟨X, rfl⟩ := Int.eq_ofNat_of_zero_le (show 0 ≤ x by omega)
              have hXn : X < n := by omega
              have hcell := hown.cellAt X (by omega)
              rw [seenL_get hXn] at hcell
              cases hmem : decide ((X : Int) ∈ nextsTo sp k 0) with
              | true =>
                rw [hmem] at hcell
                have HR := Lib.hid (Hbd.out (.inr (of_decide_eq_true hmem)) (by omega))
                have Hb2 := Lib.hid (Hbw.out.trans (hb2.mono (Nat.le_of_lt hgs)))
                clear hown hgood hb2 hmem
                go_wp2
                go_ret
                exact ⟨by rw [HR.out]; rfl, Hb2.out⟩
              | false =>
                rw [hmem] at hcell
                have hstd := (hown.stored X (.bool true)).1
                rw [seenL_set hXn] at hstd
                have hfz := hown.frozenAt X
                have Ho : Hid ((wr.setCell ⟨g, X, none⟩ (.bool true)).ownsRow g 4 1 (.slice (some ⟨g, 0, none⟩) n n) n (seenL n (nextsTo sp k (0 + 1)))) := by
                  unfold Hid; rw [Hst.out, if_pos (by omega)]; exact hstd
                have Hgo : Hid (goodN n (nextsTo sp k (0 + 1)) = true) := by
                  unfold Hid; rw [Hst.out, if_pos (by omega)]; exact good_snoc hgood.out hxn (of_decide_eq_false hmem)
                have Hb3 : Hid (Below g w1 (wr.setCell ⟨g, X, none⟩ (.bool true))) := hb2.setCell (Nat.le_refl _) _
                clear hown hgood hb2 hmem hstd
                go_wp2
                go_roundw
                case rel => exact ⟨0 + 1, by omega, by go_num, Ho.out, Hgo.out, Hb3.out⟩
                case measure => simp [intOf]
            · have HR := Lib.hid (Hbd.out (.inl (by omega)) (by omega))
              have Hb2 := Lib.hid (Hbw.out.trans (hb2.mono (Nat.le_of_lt hgs)))
              clear hown hgood hb2
              go_wp2
              go_ret
              exact ⟨by rw [HR.out]; rfl, Hb2.out⟩
        · have hx := Hnx1.out k
          have hst := Hstep.out k 1
          have hbd := Hbad.out k 1 hlt (by omega)
          rw [hx] at hst hbd
          clear hx
          have Hst := Lib.hid hst
          have Hbd := Lib.hid hbd
          clear hst hbd
          generalize (sp.getD k sp0).2.2 = x at *
          by_cases hx0 : x < 0
          · have Ho : Hid (wr.ownsRow g 4 1 (.slice (some ⟨g, 0, none⟩) n n) n (seenL n (nextsTo sp k (1 + 1)))) := by
              unfold Hid; rw [Hst.out, if_neg (by omega), List.append_nil]; exact hown
            have Hgo : Hid (goodN n (nextsTo sp k (1 + 1)) = true) := by
              unfold Hid; rw [Hst.out, if_neg (by omega), List.append_nil]; exact hgood.out
            have Hb2 := Lib.hid hb2
            clear hown hgood hb2
            go_wp2
            go_roundw
            case rel => exact ⟨1 + 1, by omega, by go_num, Ho.out, Hgo.out, Hb2.out⟩
            case measure => simp [intOf]
          · by_cases hxn : x < (n : Int)
            · obtain ⟨X, rfl⟩ := Int.eq_ofNat_of_zero_le (show 0 ≤ x by omega)
              have hXn : X < n := by omega
              have hcell := hown.cellAt X (by omega)
              rw [seenL_get hXn] at hcell
              cases hmem : decide ((X : Int) ∈ nextsTo sp k 1) with
              | true =>
                rw [hmem] at hcell
                have HR := Lib.hid (Hbd.out (.inr (of_decide_eq_true hmem)) (by omega))
                have Hb2 := Lib.hid (Hbw.out.trans (hb2.mono (Nat.le_of_lt hgs)))
                clear hown hgood hb2 hmem
                go_wp2
                go_ret
                exact ⟨by rw [HR.out]; rfl, Hb2.out⟩
              | false =>
                rw [hmem] at hcell
                have hstd := (hown.stored X (.bool true)).1
                rw [seenL_set hXn] at hstd
                have hfz := hown.frozenAt X
                have Ho : Hid ((wr.setCell ⟨g, X, none⟩ (.bool true)).ownsRow g 4 1 (.slice (some ⟨g, 0, none⟩) n n) n (seenL n (nextsTo sp k (1 + 1)))) := by
                  unfold Hid; rw [Hst.out, if_pos (by omega)]; exact hstd
                have Hgo : Hid (goodN n (nextsTo sp k (1 + 1)) = true) := by
                  unfold Hid; rw [Hst.out, if_pos (by omega)]; exact good_snoc hgood.out hxn (of_decide_eq_false hmem)
                have Hb3 : Hid (Below g w1 (wr.setCell ⟨g, X, none⟩ (.bool true))) := hb2.setCell (Nat.le_refl _) _
                clear hown hgood hb2 hmem hstd
                go_wp2
                go_roundw
                case rel => exact ⟨1 + 1, by omega, by go_num, Ho.out, Hgo.out, Hb3.out⟩
                case measure => simp [intOf]
            · have HR := Lib.hid (Hbd.out (.inl (by omega)) (by omega))
              have Hb2 := Lib.hid (Hbw.out.trans (hb2.mono (Nat.le_of_lt hgs)))
              clear hown hgood hb2
              go_wp2
              go_ret
              exact ⟨by rw [HR.out]; rfl, Hb2.out⟩
        · have Ho : Hid (wr.ownsRow g 4 1 (.slice (some ⟨g, 0, none⟩) n n) n (seenL n (nextsTo sp (k + 1) 0))) := by
            unfold Hid; rw [← Hnext.out k hlt]; exact hown
          have Hgo : Hid (goodN n (nextsTo sp (k + 1) 0) = true) := by
            unfold Hid; rw [← Hnext.out k hlt]; exact hgood.out
          have Hb2 := Lib.hid hb2
          clear hown hgood hb2
          go_wp2
          go_roundw
          case rel => exact ⟨k + 1, by omega, by go_num, Ho.out, Hgo.out, Hb2.out⟩
          case measure => simp [intOf]; omega
    · obtain rfl : k = n := by omega
      have HR := Lib.hid (Hend.out hgood.out)
      have Hb2 := Lib.hid (Hbw.out.trans (hb2.mono (Nat.le_of_lt hgs)))
      clear hown hb2
      go_wp2
      go_ret
      exact ⟨by rw [HR.out]; rfl, Hb2.out⟩
end Go.Proofs.YtefmoljipbbmmaaDoor
/- Proofs by cases: the checks of a split, step by step, and what is grown; without code. -/
namespace Go.Proofs.YtefmoljipbbmmaaDoor
open Go.RowKit
/-- what checks tells, as the program's pair -/
def chkN (o : Option Nat) : Int := match o with | some n => n | none => 0
section
variable {P : Nat} {hf : Nat → Bool} {cl : List (Nat → Bool)} {sp : List Sp3} {f : Nat} {g : Int} {kn : List Int}
theorem checks_leaf (hg : g < 0) : checks P hf cl sp (f + 1) g kn = if closeB P hf cl g kn = true then some 0 else none := by
  unfold checks; rw [if_pos hg]
theorem chk_leaf (hg : g < 0) {b : Bool} (h : closeB P hf cl g kn = b) : chkN (checks P hf cl sp (f + 1) g kn) = 0 ∧ (checks P hf cl sp (f + 1) g kn).isSome = b := by
  rw [checks_leaf hg, h]
  cases b <;> exact ⟨rfl, rfl⟩
theorem checks_who {k x y : Int} (hg : 0 ≤ g) (hs : sp.getD g.toNat sp0 = (k, x, y)) (h : ¬ (0 ≤ k ∧ k < P)) : checks P hf cl sp (f + 1) g kn = none := by
  unfold checks; rw [if_neg (by omega), hs]; dsimp only; rw [decide_eq_false h]; rfl
theorem checks_known {k x y : Int} (hg : 0 ≤ g) (hs : sp.getD g.toNat sp0 = (k, x, y)) (h : ¬ kn.getD k.toNat 0 < 0) : checks P hf cl sp (f + 1) g kn = none := by
  unfold checks; rw [if_neg (by omega), hs]; dsimp only; rw [decide_eq_false h, Bool.and_false]; rfl
theorem checks_no0 {k x y : Int} (hg : 0 ≤ g) (hs : sp.getD g.toNat sp0 = (k, x, y)) (h : nextOk sp.length g x = true → checks P hf cl sp f x (kn.set k.toNat 0) = none) : checks P hf cl sp (f + 1) g kn = none := by
  unfold checks; rw [if_neg (by omega), hs]; dsimp only
  split
  · split
    · rename_i hx; rw [h hx]
    · rfl
  · rfl
theorem checks_no1 {k x y : Int} (hg : 0 ≤ g) (hs : sp.getD g.toNat sp0 = (k, x, y)) (h : nextOk sp.length g y = true → checks P hf cl sp f y (kn.set k.toNat 1) = none) : checks P hf cl sp (f + 1) g kn = none := by
  unfold checks; rw [if_neg (by omega), hs]; dsimp only
  split
  · split
    · split
      · rfl
      · split
        · rename_i hy; rw [h hy]
        · rfl
    · rfl
  · rfl
end
/-! ### what is grown, as the program grows it -/
def growR (P : Nat) (hf : Nat → Bool) (cl : List (Nat → Bool)) : Nat → List Int → List Sp3 → List Sp3 × Int × Bool
  | f, kn, sp =>
    if closeB P hf cl (-1) kn then (sp, -1, true)
    else match clashF P hf cl kn with
      | some k => (sp, -2 - k, true)
      | none => match leastU P kn with
        | none => (sp, -1, false)
        | some k => match f with
          | 0 => (sp, -1, false)
          | f + 1 => ((growR P hf cl f (kn.set k 1) (growR P hf cl f (kn.set k 0) (sp ++ [((k : Int), -1, -1)])).1).1.set sp.length ((k : Int), (growR P hf cl f (kn.set k 0) (sp ++ [((k : Int), -1, -1)])).2.1, (growR P hf cl f (kn.set k 1) (growR P hf cl f (kn.set k 0) (sp ++ [((k : Int), -1, -1)])).1).2.1),
              (sp.length : Int), (growR P hf cl f (kn.set k 0) (sp ++ [((k : Int), -1, -1)])).2.2 && (growR P hf cl f (kn.set k 1) (growR P hf cl f (kn.set k 0) (sp ++ [((k : Int), -1, -1)])).1).2.2)
section
variable {P : Nat} {hf : Nat → Bool} {cl : List (Nat → Bool)} {f : Nat} {kn : List Int} {sp : List Sp3}
theorem growR_goal (h : closeB P hf cl (-1) kn = true) : growR P hf cl f kn sp = (sp, -1, true) := by unfold growR; rw [if_pos h]
theorem growR_claim {k : Nat} (h : closeB P hf cl (-1) kn = false) (hk : clashF P hf cl kn = some k) : growR P hf cl f kn sp = (sp, -2 - (k : Int), true) := by unfold growR; rw [if_neg (by rw [h]; decide), hk]
theorem growR_none (h : closeB P hf cl (-1) kn = false) (hk : clashF P hf cl kn = none) (hu : leastU P kn = none) : growR P hf cl f kn sp = (sp, -1, false) := by unfold growR; rw [if_neg (by rw [h]; decide), hk, hu]
theorem growR_node {k : Nat} (h : closeB P hf cl (-1) kn = false) (hk : clashF P hf cl kn = none) (hu : leastU P kn = some k) {s1 s2 : List Sp3} {l r : Int} {o1 o2 : Bool}
    (h1 : growR P hf cl f (kn.set k 0) (sp ++ [((k : Int), -1, -1)]) = (s1, l, o1)) (h2 : growR P hf cl f (kn.set k 1) s1 = (s2, r, o2)) :
    growR P hf cl (f + 1) kn sp = (s2.set sp.length ((k : Int), l, r), (sp.length : Int), o1 && o2) := by
  rw [growR, if_neg (by rw [h]; decide), hk, hu]
  dsimp only
  rw [h1]
  dsimp only
  rw [h2]
end
/-- how long what is grown is -/
theorem growR_len {P : Nat} {hf : Nat → Bool} {cl : List (Nat → Bool)} : ∀ (f : Nat) (kn : List Int) (sp : List Sp3), kn.length = P → sp.length ≤ (growR P hf cl f kn sp).1.length ∧ (growR P hf cl f kn sp).1.length + 1 ≤ sp.length + 2 ^ unkN P kn := by
  intro f
  induction f with
  | zero =>
    intro kn sp _
    have h1 : 1 ≤ 2 ^ unkN P kn := Nat.one_le_two_pow
    unfold growR
    split
    · exact ⟨Nat.le_refl _, by dsimp only; omega⟩
    · split
      · exact ⟨Nat.le_refl _, by dsimp only; omega⟩
      · split <;> exact ⟨Nat.le_refl _, by dsimp only; omega⟩
  | succ f ih =>
    intro kn sp hl
    have h1 : 1 ≤ 2 ^ unkN P kn := Nat.one_le_two_pow
    cases hg : closeB P hf cl (-1) kn with
    | true => rw [growR_goal hg]; exact ⟨Nat.le_refl _, by dsimp only; omega⟩
    | false =>
      cases hc : clashF P hf cl kn with
      | some k => rw [growR_claim hg hc]; exact ⟨Nat.le_refl _, by dsimp only; omega⟩
      | none =>
        cases hu : leastU P kn with
        | none => rw [growR_none hg hc hu]; exact ⟨Nat.le_refl _, by dsimp only; omega⟩
        | some k =>
          obtain ⟨hk, hn⟩ := least_some hu
          have e1 := unk_set hl hk hn (z := 0) (by omega)
          have e2 := unk_set hl hk hn (z := 1) (by omega)
          obtain ⟨⟨s1, l, o1⟩, hr1⟩ : ∃ r, r = growR P hf cl f (kn.set k 0) (sp ++ [((k : Int), -1, -1)]) := ⟨_, rfl⟩
          obtain ⟨⟨s2, r, o2⟩, hr2⟩ : ∃ r, r = growR P hf cl f (kn.set k 1) s1 := ⟨_, rfl⟩
          have i1 := ih (kn.set k 0) (sp ++ [((k : Int), -1, -1)]) (by simpa using hl)
          have i2 := ih (kn.set k 1) s1 (by simpa using hl)
          rw [← hr1, List.length_append] at i1
          rw [← hr2] at i2
          rw [growR_node hg hc hu hr1.symm hr2.symm]
          dsimp only at i1 i2 ⊢
          rw [List.length_set, ← e1, Nat.pow_succ]
          rw [show unkN P (kn.set k 1) = unkN P (kn.set k 0) by omega] at i2
          simp only [List.length_cons, List.length_nil] at i1
          omega
theorem set_at {pre post : List Sp3} {a b : Sp3} {n : Nat} (h : pre.length = n) : (pre ++ a :: post).set n b = pre ++ b :: post := by
  subst h
  rw [List.set_append_right _ _ (by omega), Nat.sub_self]; rfl
/-- what is grown is the tree that is found, behind the others -/
theorem growR_tree {P : Nat} {hf : Nat → Bool} {cl : List (Nat → Bool)} : ∀ (f : Nat) (kn : List Int) (sp : List Sp3), match growT P hf cl f kn with
    | some t => growR P hf cl f kn sp = (sp ++ t.flat sp.length, t.tgt sp.length, true)
    | none => (growR P hf cl f kn sp).2.2 = false := by
  intro f
  induction f with
  | zero =>
    intro kn sp
    unfold growT growR
    split
    · rename_i h
      split at h
      · cases h; simp [PT.flat, PT.tgt, *]
      · split at h
        · cases h; simp [PT.flat, PT.tgt, *]
        · split at h <;> cases h
    · rename_i h
      split at h
      · cases h
      · split at h
        · cases h
        · split at h <;> simp [*]
  | succ f ih =>
    intro kn sp
    cases hg : closeB P hf cl (-1) kn with
    | true => rw [growR_goal hg]; unfold growT; rw [if_pos hg]; simp [PT.flat, PT.tgt]
    | false =>
      cases hc : clashF P hf cl kn with
      | some k => rw [growR_claim hg hc]; unfold growT; rw [if_neg (by rw [hg]; decide), hc]; simp [PT.flat, PT.tgt]
      | none =>
        cases hu : leastU P kn with
        | none => rw [growR_none hg hc hu]; unfold growT; rw [if_neg (by rw [hg]; decide), hc, hu]
        | some k =>
          obtain ⟨⟨s1, l, o1⟩, hr1⟩ : ∃ r, r = growR P hf cl f (kn.set k 0) (sp ++ [((k : Int), -1, -1)]) := ⟨_, rfl⟩
          obtain ⟨⟨s2, r, o2⟩, hr2⟩ : ∃ r, r = growR P hf cl f (kn.set k 1) s1 := ⟨_, rfl⟩
          have i1 := ih (kn.set k 0) (sp ++ [((k : Int), -1, -1)])
          have i2 := ih (kn.set k 1) s1
          rw [← hr1] at i1
          rw [← hr2] at i2
          rw [growR_node hg hc hu hr1.symm hr2.symm]
          unfold growT
          rw [if_neg (by rw [hg]; decide), hc, hu]
          dsimp only
          cases ha : growT P hf cl f (kn.set k 0) with
          | none =>
            rw [ha] at i1
            dsimp only at i1 ⊢
            rw [i1]; rfl
          | some a =>
            rw [ha] at i1
            dsimp only at i1
            cases i1
            cases hb : growT P hf cl f (kn.set k 1) with
            | none =>
              rw [hb] at i2
              dsimp only at i2 ⊢
              rw [i2]; rfl
            | some b =>
              rw [hb] at i2
              dsimp only at i2
              cases i2
              dsimp only
              have hla : (sp ++ [((k : Int), (-1 : Int), (-1 : Int))] ++ a.flat (sp ++ [((k : Int), (-1 : Int), (-1 : Int))]).length).length = sp.length + 1 + a.size := by
                rw [List.length_append, PT.flat_len, List.length_append]; rfl
              have hl1 : (sp ++ [((k : Int), (-1 : Int), (-1 : Int))]).length = sp.length + 1 := by rw [List.length_append]; rfl
              rw [hla, hl1]
              have e : sp ++ [((k : Int), (-1 : Int), (-1 : Int))] ++ a.flat (sp.length + 1) ++ b.flat (sp.length + 1 + a.size) = sp ++ ((k : Int), (-1 : Int), (-1 : Int)) :: (a.flat (sp.length + 1) ++ b.flat (sp.length + 1 + a.size)) := by simp
              rw [e, set_at rfl]
              rfl
theorem grow_found {P : Nat} {hf : Nat → Bool} {cl : List (Nat → Bool)} {kn : List Int} {t : PT} {f : Nat} (h : growT P hf cl f kn = some t) (sp : List Sp3) : growR P hf cl f kn sp = (sp ++ t.flat sp.length, t.tgt sp.length, true) := by
  have := growR_tree (P := P) (hf := hf) (cl := cl) f kn sp
  rw [h] at this; exact this
theorem grow_none {P : Nat} {hf : Nat → Bool} {cl : List (Nat → Bool)} {kn : List Int} {f : Nat} (h : growT P hf cl f kn = none) (sp : List Sp3) : (growR P hf cl f kn sp).2.2 = false := by
  have := growR_tree (P := P) (hf := hf) (cl := cl) f kn sp
  rw [h] at this; exact this
end Go.Proofs.YtefmoljipbbmmaaDoor
/- Contracts of the reference's proofs by cases: checks from a target that closes. -/
namespace Go.Proofs.YtefmoljipbbmmaaDoor
open Go.RowKit Go.Joins
attribute [local irreducible] holds tabN tabV holdsV sameV followsV alwaysV matterV claimOk mayT mayV ctabV ctabN storyV storyOk storyN storyT ctermV ctermL followsF agreeN agreeB closeB
set_option maxRecDepth 100000 in
set_option maxHeartbeats 1000000 in
theorem specChecks_leaf (P : Nat) (qs : List QC) (ms : List (Int × Int)) (hok : storyOk (P : Int) (qs.map (·.2)) = true) (ht : termOk (P : Int) ms = true) (sp : List Sp3) (fi : Int) (f : Nat) (kn : List Int) (hl : kn.length = P) (g : Int) (hgn : g < 0)
    (B : Nat) (v u pv kv : Value) (w : World) (hr : RdStory w B v qs) (hr' : RdMarks w B u ms) (hk : RdInts w B kv kn) (hB : B ≤ w.heap.size) :
    Calls Tryd.prog 40 #[.int .i64 (P : Int), v, u, .agg #[.int .i64 fi, pv], .int .i64 g, kv] w fun e w' =>
      e = .returned (.tuple #[.int .i64 (chkN (checks P (hfV P ms) (clL P (qs.map (·.2))) sp (f + 1) g kn)), .bool (checks P (hfV P ms) (clL P (qs.map (·.2))) sp (f + 1) g kn).isSome]) ∧ Below w.heap.size w w' := by
  obtain ⟨c1, c2⟩ := chk_leaf (P := P) (hf := hfV P ms) (cl := clL P (qs.map (·.2))) (sp := sp) (f := f) (kn := kn) hgn rfl
  rw [c1, c2]
  clear c1 c2
  have hlq := (storyOk_iff.1 hok).2.2
  rw [List.length_map] at hlq
  have Hr := Lib.hid hr
  have Hr' := Lib.hid hr'
  have Hk := Lib.hid hk
  clear hr' hk
  obtain ⟨ao, cap, rfl, hle, hm, _, _⟩ := hr
  unfold maxLen at hm
  obtain ⟨wo, rfl⟩ : ∃ wo : World, wo = w := ⟨_, rfl⟩
  by_cases hgl : -2 - (qs.length : Int) ≤ g
  · have Hcl := Lib.hid (fun w hr hr' hk hB => specCloses P qs ms hok ht kn hl g hgl hgn B (.slice ao qs.length cap) u kv w hr hr' hk hB)
    generalize closeB P (hfV P ms) (clL P (qs.map (·.2))) g kn = R at *
    clear hok ht hl
    generalize hn : qs.length = n at *
    clear hn
    go_enter Tryd.func40, Tryd.ntmps40
    go_upto_region 1 with fail
    obtain ⟨w1, hw1, _, _, hbw, hsz⟩ := new_two wo (.int .i64 fi) pv 37
    rw [← hw1]
    have Hr1 := Lib.hid (Hr.out.below (w' := w1) (fun q hq => hbw.block q (by omega)))
    have Hr1' := Lib.hid (Hr'.out.below (w' := w1) (fun q hq => hbw.block q (by omega)))
    have Hk1 := Lib.hid (Hk.out.below (w' := w1) (fun q hq => hbw.block q (by omega)))
    have hB1 : B ≤ w1.heap.size := by omega
    have Hbw := Lib.hid hbw
    clear hbw hw1
    go_wp2_with fail
    refine (Hcl.out _ Hr1.out Hr1'.out Hk1.out hB1).mono ?_
    rintro e w2 ⟨rfl, hb2⟩
    have Hb2 := Lib.hid (Hbw.out.trans (hb2.mono Hbw.out.size)); clear hb2
    go_wp2
    go_ret2
    exact ⟨rfl, Hb2.out⟩
  · have hc : closeB P (hfV P ms) (clL P (qs.map (·.2))) g kn = false := by
      have := close_past (p := (P : Int)) (s := qs.map (·.2)) (ms := ms) (kn := kn) (g := g) (by omega) (by rw [List.length_map]; omega)
      rwa [Int.toNat_natCast] at this
    rw [hc]
    clear hc hok ht hl Hr
    generalize hn : qs.length = n at *
    clear hn
    go_enter Tryd.func40, Tryd.ntmps40
    go_upto_region 1 with fail
    obtain ⟨w1, hw1, _, _, hbw, hsz⟩ := new_two wo (.int .i64 fi) pv 37
    rw [← hw1]
    have Hbw := Lib.hid hbw
    clear hbw hw1
    go_wp2
    go_ret2
    exact ⟨rfl, Hbw.out⟩
end Go.Proofs.YtefmoljipbbmmaaDoor

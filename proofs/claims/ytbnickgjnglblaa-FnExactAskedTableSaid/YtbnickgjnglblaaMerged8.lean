/- Texts of a proof, merged: Starts, MarksB, MarksC, DrawP, TruthS. -/
import Derived.Test.YtbnickgjnglblaaMarksS
import Derived.IntWalk
import Derived.Test.YtbnickgjnglblaaMerged4
import Derived.Test.YtbnickgjnglblaaMerged2
import Derived.Deep.RegionHeld3
import Derived.Deep.RegionWith
import Derived.Deep.DeepCutAuto
import Derived.Test.YtbnickgjnglblaaDraw
import Derived.Deep.AppendLies
/- Where a part of a row of marks begins; parts of rows. -/
namespace Go.Proofs.Ytbnickgjnglblaa
open Go.RowKit

/-! ### how far a part reaches back -/
def dl (k : Int) : Int := if k ≤ 1 then -1 else if k = 2 then 0 else 1
def dsT (t : Tm) : List Int := t.post.reverse.map (fun m => dl m.1)
theorem dsT_un (t : Tm) : dsT (.un t) = 0 :: dsT t := by simp [dsT, Tm.post, dl]
theorem dsT_bin {k : Int} (a b : Tm) (hk : 3 ≤ k) : dsT (.bin k a b) = 1 :: (dsT b ++ dsT a) := by
  have h1 : ¬ k ≤ 1 := by omega
  have h2 : ¬ k = 2 := by omega
  simp [dsT, Tm.post, dl, h1, h2]
theorem dsT_len (t : Tm) : (dsT t).length = t.post.length := by simp [dsT]
theorem dsT_sum {p : Int} : ∀ t : Tm, t.ok p → (dsT t).sum = -1 ∧ ∀ j, j < (dsT t).length → 0 ≤ ((dsT t).take j).sum
  | .leaf k x, h => by
    have hk : k ≤ 1 := by simp only [Tm.ok] at h; omega
    have e : dsT (.leaf k x) = [-1] := by simp [dsT, Tm.post, dl, hk]
    rw [e]
    refine ⟨rfl, fun j hj => ?_⟩
    simp at hj
    subst hj
    simp
  | .un t, h => by
    obtain ⟨h1, h2⟩ := dsT_sum t (by simpa only [Tm.ok] using h)
    rw [dsT_un]
    refine ⟨by simp [h1], fun j hj => ?_⟩
    cases j with
    | zero => simp
    | succ j =>
      have := h2 j (by simp at hj; exact hj)
      simpa using this
  | .bin k a b, h => by
    simp only [Tm.ok] at h
    obtain ⟨hk, _, ha, hb⟩ := h
    obtain ⟨a1, a2⟩ := dsT_sum a ha
    obtain ⟨b1, b2⟩ := dsT_sum b hb
    rw [dsT_bin a b hk]
    refine ⟨by simp [a1, b1], fun j hj => ?_⟩
    cases j with
    | zero => simp
    | succ j =>
      simp at hj
      rw [List.take_succ_cons, List.sum_cons, List.take_append, List.sum_append]
      by_cases hjb : j < (dsT b).length
      · have := b2 j hjb
        rw [Nat.sub_eq_zero_of_le (by omega)]
        simp; omega
      · have := a2 (j - (dsT b).length) (by omega)
        rw [List.take_of_length_le (by omega), b1]
        omega
theorem dl_le (k : Int) : dl k ≤ 1 := by unfold dl; split <;> (try split) <;> omega
theorem sum_take_le : ∀ (l : List Int) (j : Nat), (∀ x ∈ l, x ≤ 1) → (l.take j).sum ≤ j
  | [], j, _ => by simp
  | x :: l, 0, _ => by simp
  | x :: l, j + 1, h => by
    have h1 := h x (by simp)
    have h2 := sum_take_le l j (fun y hy => h y (by simp [hy]))
    simp; omega
/-- the parts that are wanted once j marks have been passed, from the last one back -/
def nd (t : Tm) (j : Nat) : Int := 1 + ((dsT t).take j).sum
theorem nd_zero (t : Tm) : nd t 0 = 1 := by simp [nd]
theorem nd_all {p : Int} {t : Tm} (h : t.ok p) : nd t t.post.length = 0 := by
  obtain ⟨h1, _⟩ := dsT_sum t h
  unfold nd
  rw [List.take_of_length_le (by rw [dsT_len]; omega), h1]
  rfl
theorem nd_step {p : Int} {t : Tm} (h : t.ok p) {j : Nat} (hj : j < t.post.length) : 1 ≤ nd t j ∧ nd t j ≤ 1 + j ∧ nd t (j + 1) = nd t j + dl (t.post.getD (t.post.length - 1 - j) (0, 0)).1 := by
  obtain ⟨_, h2⟩ := dsT_sum t h
  have h3 := h2 j (by rw [dsT_len]; exact hj)
  have h4 := sum_take_le (dsT t) j (fun x hx => by
    simp only [dsT, List.mem_map] at hx
    obtain ⟨m, _, rfl⟩ := hx
    exact dl_le _)
  refine ⟨by unfold nd; omega, by unfold nd; omega, ?_⟩
  unfold nd
  rw [take_snoc 0 (dsT t) j (by rw [dsT_len]; exact hj), List.sum_append]
  have e : (dsT t).getD j 0 = dl (t.post.getD (t.post.length - 1 - j) (0, 0)).1 := by
    have hl : j < (dsT t).length := by rw [dsT_len]; exact hj
    rw [List.getD_eq_getElem?_getD, List.getElem?_eq_getElem hl, List.getD_eq_getElem?_getD, List.getElem?_eq_getElem (show t.post.length - 1 - j < t.post.length by omega)]
    simp [dsT]
  rw [e]
  simp
  omega

/-! ### parts of rows, parts' texts -/
theorem RdMarks.cut {w : World} {B b off n cap m i : Nat} {ms pre sub suf : List (Int × Int)} (h : RdMarks w B (.slice (some ⟨b, off, none⟩) n cap) ms) (e : ms = pre ++ sub ++ suf) (hi : pre.length = i) (hm : sub.length = m) :
    RdMarks w B (.slice (some ⟨b, off + i * 2, none⟩) m (cap - i)) sub := by
  obtain ⟨ao, cap', hv, hl, hmx, hii, hc⟩ := h
  cases hv
  subst e; subst hi; subst hm
  simp only [List.length_append] at hl
  refine ⟨_, _, rfl, by omega, by unfold maxLen at *; omega, fun x hx => hii x (by simp [hx]), fun j hj => ?_⟩
  obtain ⟨b', off', he, hb, h1, h2⟩ := hc (pre.length + j) (by simp only [List.length_append]; omega)
  cases he
  have e : (pre ++ sub ++ suf).getD (pre.length + j) (0, 0) = sub.getD j (0, 0) := by
    rw [List.getD_eq_getElem?_getD, List.getElem?_append_left (by simp only [List.length_append]; omega), List.getElem?_append_right (by omega), Nat.add_sub_cancel_left, ← List.getD_eq_getElem?_getD]
  rw [e] at h1 h2
  exact ⟨b, _, rfl, hb, by rw [← h1]; congr 2; omega, by rw [← h2]; congr 2; omega⟩
theorem RdMarks.form {w : World} {B : Nat} {v : Value} {ms : List (Int × Int)} (h : RdMarks w B v ms) (hn : 0 < ms.length) : ∃ b off cap, v = .slice (some ⟨b, off, none⟩) ms.length cap ∧ ms.length ≤ cap ∧ cap ≤ maxLen ∧ b < B := by
  obtain ⟨ao, cap, rfl, hl, hm, _, hc⟩ := h
  obtain ⟨b, off, rfl, hb, _⟩ := hc 0 hn
  exact ⟨b, off, cap, rfl, hl, hm, hb⟩
theorem RdMarks.at {w : World} {B b off n cap j : Nat} {ms : List (Int × Int)} {m : Int × Int} (h : RdMarks w B (.slice (some ⟨b, off, none⟩) n cap) ms) (hj : j < ms.length) (hm : ms.getD j (0, 0) = m) :
    w.cell? ⟨b, off + j * 2, none⟩ = some (.int .i64 m.1) ∧ w.cell? ⟨b, off + j * 2 + 1, none⟩ = some (.int .i64 m.2) := by
  obtain ⟨ao, cap, hv, hl, _, _, hc⟩ := h
  cases hv
  obtain ⟨b', off', he, hb, h1, h2⟩ := hc j hj
  cases he
  rw [hm] at h1 h2
  exact ⟨h1, h2⟩
theorem post_pos (t : Tm) : 0 < t.post.length := by cases t <;> simp [Tm.post] <;> omega
end Go.Proofs.Ytbnickgjnglblaa
/- Contracts over rows of marks: who is read, and the laws' own helpers. -/
namespace Go.Proofs.Ytbnickgjnglblaa
open Go.RowKit

/-! ### who is read -/
def rdStep (n : Nat) (m : Int × Int) : Nat := if m.1 = 0 then n ||| 1 <<< m.2.toNat else n
def readN (ms : List (Int × Int)) : Nat := ms.foldl rdStep 0
theorem readN_snoc (ms : List (Int × Int)) (m : Int × Int) : readN (ms ++ [m]) = if m.1 = 0 then readN ms ||| 1 <<< m.2.toNat else readN ms := by
  unfold readN; rw [List.foldl_append]; rfl
theorem readN_succ {ms : List (Int × Int)} {k : Nat} (h : k < ms.length) : readN (ms.take (k + 1)) = if (ms.getD k (0, 0)).1 = 0 then readN (ms.take k) ||| 1 <<< (ms.getD k (0, 0)).2.toNat else readN (ms.take k) := by
  rw [take_snoc (0, 0) ms k h, readN_snoc]
theorem stepS_mkOk {p : Int} {s s' : List Tm} {m : Int × Int} (h : stepS p s m = some s') : mkOk p m.1 m.2 = true := by
  cases hm : mkOk p m.1 m.2 with
  | true => rfl
  | false => rw [step_no1 hm] at h; cases h
theorem runS_mkOk {p : Int} : ∀ {ms : List (Int × Int)} {s s' : List Tm}, runS p ms s = some s' → ∀ m ∈ ms, mkOk p m.1 m.2 = true
  | [], _, _, _ => by simp
  | m :: r, s, s', h => by
    cases h1 : stepS p s m with
    | none => simp [runS, h1] at h
    | some s1 =>
      have h' : runS p r s1 = some s' := by simpa [runS, h1] using h
      intro x hx
      rcases List.mem_cons.1 hx with rfl | hx
      · exact stepS_mkOk h1
      · exact runS_mkOk h' x hx
theorem termOk_mkOk {p : Int} {ms : List (Int × Int)} (h : termOk p ms = true) : ∀ m ∈ ms, mkOk p m.1 m.2 = true := by
  obtain ⟨_, _, t, ht, rfl⟩ := termOk_iff.1 h
  exact runS_mkOk (runS_tm t [] ht)
theorem termOk_get {p : Int} {ms : List (Int × Int)} (h : termOk p ms = true) {k : Nat} (hk : k < ms.length) : mkOk p (ms.getD k (0, 0)).1 (ms.getD k (0, 0)).2 = true := by
  have : ms.getD k (0, 0) = ms[k] := by simp [List.getD, hk]
  rw [this]; exact termOk_mkOk h _ (List.getElem_mem hk)
theorem readN_lt {p : Int} : ∀ {ms : List (Int × Int)}, 1 ≤ p → p ≤ 4 → (∀ m ∈ ms, mkOk p m.1 m.2 = true) → readN ms < 2 ^ p.toNat := by
  intro ms h1 h4 h
  have key : ∀ (l : List (Int × Int)) (n : Nat), n < 2 ^ p.toNat → (∀ m ∈ l, mkOk p m.1 m.2 = true) → l.foldl rdStep n < 2 ^ p.toNat := by
    intro l
    induction l with
    | nil => intro n hn _; exact hn
    | cons m r ih =>
      intro n hn hl
      refine ih _ ?_ (fun x hx => hl x (by simp [hx]))
      unfold rdStep
      split
      · rename_i hm
        refine Nat.or_lt_two_pow hn ?_
        have := hl m (by simp)
        unfold mkOk at this
        rw [decide_eq_true_eq] at this
        rw [Nat.one_shiftLeft]
        exact Nat.pow_lt_pow_right (by decide) (by omega)
      · exact hn
  exact key ms 0 (Nat.two_pow_pos _) h
theorem readN_lt16 {p : Int} {ms : List (Int × Int)} (h : termOk p ms = true) (k : Nat) : readN (ms.take k) < 16 := by
  have hp := (termOk_iff.1 h).1
  have h1 := readN_lt (ms := ms.take k) hp.1 hp.2 (fun m hm => termOk_mkOk h m (List.mem_of_mem_take hm))
  have h2 : 2 ^ p.toNat ≤ 2 ^ 4 := Nat.pow_le_pow_right (by decide) (by omega)
  omega
def readV (p : Int) (ms : List (Int × Int)) : Int := if termOk p ms = true then readN ms else -1
theorem readV_yes {p : Int} {ms : List (Int × Int)} (h : termOk p ms = true) : readV p ms = readN ms := by simp [readV, h]
theorem readV_no {p : Int} {ms : List (Int × Int)} (h : termOk p ms = false) : readV p ms = -1 := by simp [readV, h]
theorem readN_nil : readN [] = 0 := rfl
attribute [local irreducible] readN



/-! ### the laws' helpers -/
theorem marks_eq_of {xs ys : List (Int × Int)} (hl : xs.length = ys.length) (h : ∀ j, j < xs.length → xs.getD j (0, 0) = ys.getD j (0, 0)) : xs = ys := by
  refine List.ext_getElem hl fun j h1 h2 => ?_
  have := h j h1
  simpa [List.getD, h1, h2] using this



end Go.Proofs.Ytbnickgjnglblaa
/- Contracts over rows of marks: the exact laws' copies, marks laid and held. -/
namespace Go.Proofs.Ytbnickgjnglblaa
open Go.RowKit Go.Joins

theorem Try.infoM : (Try.prog.info? 37).map (fun i => (i.zero, i.size, i.bytes)) = some (some (.agg #[.int .i64 0, .int .i64 0]), 2, 16) := by kernel_rfl

theorem only_of_below {a w : World} (h : Below a.heap.size a w) (row : Option Nat) : a.grownBy w row := ⟨h.os, h.tape, h.output, h.size, fun i hi _ => h.block i hi⟩
theorem own_below {w w' : World} {base n size : Nat} {e : TypeId} {v : Value} {xs : List Value} (h : w.ownsRow base e size v n xs) (hb : Below w.heap.size w w') : w'.ownsRow base e size v n xs := by
  refine h.kept (only_of_below hb none) ?_
  cases v.ownBlock with
  | none => exact .inl rfl
  | some g => exact .inr (by simp)
theorem below_undrew {B : Nat} {w w' : World} (h : Below B w.drew w') : Below B w w' := ⟨h.os, h.tape, h.output, h.size, h.block⟩

/-! ### cells set -/
theorem mcells_set (A R : List (Int × Int)) (m m' : Int × Int) (k : Nat) (hk : A.length = k) :
    ((mcells (A ++ m :: R)).set (k * 2) (.int .i64 m'.1)).set (k * 2 + 1) (.int .i64 m'.2) = mcells (A ++ m' :: R) := by
  subst hk
  have hl := mcells_length A
  rw [mcells_append, mcells_append, List.set_append_right _ _ (by omega), List.set_append_right _ _ (by omega), hl]
  have e1 : A.length * 2 - A.length * 2 = 0 := by omega
  have e2 : A.length * 2 + 1 - A.length * 2 = 1 := by omega
  rw [e1, e2]
  rfl
theorem mcopy_set (zs : List (Int × Int)) (n k : Nat) (hn : zs.length = n) (hk : k < n) :
    ((mcells (zs.take k ++ List.replicate (n - k) (0, 0))).set (k * 2) (.int .i64 (zs.getD k (0, 0)).1)).set (k * 2 + 1) (.int .i64 (zs.getD k (0, 0)).2) = mcells (zs.take (k + 1) ++ List.replicate (n - (k + 1)) (0, 0)) := by
  have hr : List.replicate (n - k) ((0 : Int), (0 : Int)) = (0, 0) :: List.replicate (n - (k + 1)) (0, 0) := by
    rw [show n - k = (n - (k + 1)) + 1 from by omega]; rfl
  rw [hr, take_snoc (0, 0) zs k (by omega), List.append_assoc]
  exact mcells_set _ _ _ _ _ (by simp; omega)
theorem mcells_rep (n : Nat) : mcells (List.replicate n (0, 0)) = List.replicate (n * 2) (Value.int .i64 0) := by
  induction n with
  | zero => rfl
  | succ n ih => rw [show (n + 1) * 2 = n * 2 + 1 + 1 from by omega, List.replicate_succ, List.replicate_succ, List.replicate_succ, ← ih]; rfl
theorem mcells_zero (n : Nat) : (madeCells #[Value.int .i64 0, Value.int .i64 0] (n * 2)).toList = mcells (List.replicate n (0, 0)) := by
  rw [mcells_rep]
  refine List.ext_getElem (by simp [madeCells]) fun i h1 h2 => ?_
  rw [List.getElem_replicate]
  have : i % 2 = 0 ∨ i % 2 = 1 := by omega
  rcases this with h | h <;> simp [madeCells, h]



end Go.Proofs.Ytbnickgjnglblaa
/- Rows of rows of marks that a call lays for itself. -/
namespace Go.Proofs.Ytbnickgjnglblaa
open Go.RowKit Go.Joins

theorem Try.infoS : (Try.prog.info? 38).map (fun i => (i.zero, i.size, i.bytes)) = some (some (.slice none 0 0), 1, 24) := by kernel_rfl

/-- some boolean; the reader is at most at c -/
def DrewB (b c : Nat) (w : World) (e : Ending) (w' : World) : Prop := ∃ x : Bool, e = .returned (.bool x) ∧ Rd w' b c ∧ w.grownBy w' (some b)

/-! ### rows of rows of marks -/
abbrev TM : TypeId := 37
abbrev TS : TypeId := 38
def PartsIn (w : World) (base : Nat) (v : Value) (ps : List (Value × List (Int × Int))) : Prop :=
  w.ownsRow base TS 1 v ps.length (ps.map (·.1)) ∧ ∀ q ∈ ps, w.ownsRow base TM 2 q.1 q.2.length (mcells q.2) ∧ q.2 ≠ [] ∧ I64s q.2
def tot (ps : List (Value × List (Int × Int))) : Nat := (ps.map (·.2.length)).sum
theorem own_ne {w : World} {base base' size size' n n' : Nat} {e e' : TypeId} {v v' : Value} {xs xs' : List Value} (h : w.ownsRow base e size v n xs) (h' : w.ownsRow base' e' size' v' n' xs') (hne : e ≠ e') :
    v.ownBlock = none ∨ v.ownBlock ≠ v'.ownBlock := by
  rcases h.2 with ⟨rfl, _⟩ | ⟨g, cap, cur, rfl, _, hg, _⟩
  · exact .inl rfl
  · right
    rcases h'.2 with ⟨rfl, _⟩ | ⟨g', cap', cur', rfl, _, hg', _⟩
    · simp [Value.ownBlock]
    · intro he
      have : g = g' := by simpa [Value.ownBlock] using he
      subst this
      rw [hg] at hg'
      injection hg' with hg'
      injection hg' with _ ht
      exact hne ht
theorem own_row {w w' : World} {base size n b : Nat} {e : TypeId} {v : Value} {xs : List Value} (h : w.ownsRow base e size v n xs) (hg : w.grownBy w' (some b)) (hb : b < base) : w'.ownsRow base e size v n xs := by
  refine h.kept hg ?_
  cases hv : v.ownBlock with
  | none => exact .inl rfl
  | some g => right; intro he; cases he; have := (h.lt b hv).1; omega
theorem PartsIn.row {w w' : World} {base b : Nat} {v : Value} {ps : List (Value × List (Int × Int))} (h : PartsIn w base v ps) (hg : w.grownBy w' (some b)) (hb : b < base) : PartsIn w' base v ps :=
  ⟨own_row h.1 hg hb, fun q hq => ⟨own_row (h.2 q hq).1 hg hb, (h.2 q hq).2⟩⟩
theorem PartsIn.alloc {w : World} {base : Nat} {v : Value} {ps : List (Value × List (Int × Int))} (h : PartsIn w base v ps) (o : Obj) : PartsIn (w.alloc o) base v ps :=
  ⟨h.1.alloc o, fun q hq => ⟨(h.2 q hq).1.alloc o, (h.2 q hq).2⟩⟩
theorem own_new (w : World) (base : Nat) (k x : Int) (hb : base ≤ w.heap.size) : (w.alloc (.cells #[.int .i64 k, .int .i64 x] TM)).ownsRow base TM 2 (.slice (some ⟨w.heap.size, 0, none⟩) 1 1) 1 (mcells [(k, x)]) :=
  ⟨rfl, .inr ⟨w.heap.size, 1, _, rfl, hb, heap_alloc_new w _, Nat.le_refl _, by unfold maxLen; omega, rfl, rfl⟩⟩
theorem I64s_one {k x : Int} (hk : I64 k) (hx : I64 x) : I64s [(k, x)] := by intro m hm; simp at hm; subst hm; exact ⟨hk, hx⟩
theorem I64_small {x : Int} (h0 : -100 ≤ x) (h1 : x ≤ 100) : I64 x := by unfold I64; omega
theorem tot_snoc (ps : List (Value × List (Int × Int))) (q : Value × List (Int × Int)) : tot (ps ++ [q]) = tot ps + q.2.length := by simp [tot]
/-- behind an append of one part -/
theorem PartsIn.push {w w' : World} {base : Nat} {v v' : Value} {ps : List (Value × List (Int × Int))} {q : Value × List (Int × Int)} (h : PartsIn w base v ps)
    (hq : w.ownsRow base TM 2 q.1 q.2.length (mcells q.2) ∧ q.2 ≠ [] ∧ I64s q.2) (hown : w'.ownsRow base TS 1 v' (ps.length + 1) (ps.map (·.1) ++ [q.1])) (hg : w.grownBy w' v.ownBlock) : PartsIn w' base v' (ps ++ [q]) := by
  have hne : TM ≠ TS := by decide
  refine ⟨by simpa using hown, fun r hr => ?_⟩
  rcases List.mem_append.1 hr with hr | hr
  · exact ⟨(h.2 r hr).1.kept hg (own_ne (h.2 r hr).1 h.1 hne), (h.2 r hr).2⟩
  · simp at hr; subst hr
    exact ⟨hq.1.kept hg (own_ne hq.1 h.1 hne), hq.2⟩
theorem own_row_block {w : World} {base size n : Nat} {e : TypeId} {v : Value} {xs : List Value} (h : w.ownsRow base e size v n xs) {b : Nat} (hb : b < base) : ∀ k, v.ownBlock = some k → b < k := fun k hk => Nat.lt_of_lt_of_le hb (h.lt k hk).1
theorem only_alloc {a w : World} {row : Option Nat} (h : a.grownBy w row) (o : Obj) : a.grownBy (w.alloc o) row :=
  ⟨h.os, h.tape, h.output, Nat.le_trans h.size (by simp), fun i hi hne => (Below.heap_alloc w o i (Nat.lt_of_lt_of_le hi h.size)).trans (h.block i hi hne)⟩
theorem grown_own {a w w' : World} {row0 row : Option Nat} (h : a.grownBy w row0) (hg : w.grownBy w' row) (hr : ∀ k, row = some k → a.heap.size ≤ k) : a.grownBy w' row0 :=
  ⟨hg.os.trans h.os, hg.tape.trans h.tape, hg.output.trans h.output, Nat.le_trans h.size hg.size, fun i hi hne => (hg.block i (Nat.lt_of_lt_of_le hi h.size) (fun e => by have := hr i e.symm; omega)).trans (h.block i hi hne)⟩
theorem Rd.alloc {w : World} {b c : Nat} (h : Rd w b c) (o : Obj) : Rd (w.alloc o) b c := h.kept fun k hk => Below.heap_alloc w o k (by have := h.lt; omega)

theorem news1 (W : World) (g : Nat) (hg : g = W.heap.size) (u : Value) (T : TypeId) : ∀ (j : Nat) (u' : Value), [u][j]? = some u' → (W.alloc (.cells #[u] T)).cell? ((⟨g, 0, none⟩ : Addr).add j) = some u' := by
  subst hg; exact cell_one_new W u T
/-- one part more: how a round of the first loop ends -/
theorem part_added {w w4 w5 : World} {b : Nat} {v v' : Value} {ps : List (Value × List (Int × Int))} {kd z : Int} {c : Nat} {o : Obj} (hb : b < w.heap.size) (hp : PartsIn w4 w.heap.size v ps) (hz : I64 z) (hk : I64 kd) (hG : w.grownBy w4 (some b)) (hr : Rd w4 b c)
    (hown : w5.ownsRow w.heap.size TS 1 v' (ps.length + 1) (ps.map (·.1) ++ [.slice (some ⟨w4.heap.size, 0, none⟩) 1 1]))
    (hg : ((w4.alloc (.cells #[.int .i64 kd, .int .i64 z] TM)).alloc o).grownBy w5 v.ownBlock) :
    PartsIn w5 w.heap.size v' (ps ++ [(.slice (some ⟨w4.heap.size, 0, none⟩) 1 1, [(kd, z)])]) ∧ w.grownBy w5 (some b) ∧ Rd w5 b c := by
  have hp2 := (hp.alloc (.cells #[.int .i64 kd, .int .i64 z] TM)).alloc o
  refine ⟨hp2.push ⟨(own_new w4 w.heap.size kd z hG.size).alloc o, by simp, I64s_one hk hz⟩ hown hg, ?_, ?_⟩
  · exact grown_own (only_alloc (only_alloc hG _) _) hg fun k hk => (hp.1.lt k hk).1
  · exact ((hr.alloc _).alloc _).grown hg (own_row_block hp.1 hb)

theorem own_mono {w : World} {base base' n size : Nat} {e : TypeId} {v : Value} {xs : List Value} (h : w.ownsRow base' e size v n xs) (hb : base ≤ base') : w.ownsRow base e size v n xs := by
  refine ⟨h.1, ?_⟩
  rcases h.2 with h0 | ⟨g, cap, cur, hv, hg, rest⟩
  · exact .inl h0
  · exact .inr ⟨g, cap, cur, hv, by omega, rest⟩
def lenV : Value → Nat | .slice _ n _ => n | _ => 0
abbrev PQ := Value × List (Int × Int)
def pq0 : PQ := (.slice none 0 0, [])
theorem parts_at {w : World} {base g cap : Nat} {ps : List PQ} (h : PartsIn w base (.slice (some ⟨g, 0, none⟩) ps.length cap) ps) {y : Nat} (hy : y < ps.length) :
    ∃ gq cq, w.cell? ⟨g, y, none⟩ = some (.slice (some ⟨gq, 0, none⟩) (ps.getD y pq0).2.length cq) ∧ (ps.getD y pq0).1 = .slice (some ⟨gq, 0, none⟩) (ps.getD y pq0).2.length cq ∧ 0 < (ps.getD y pq0).2.length ∧ I64s (ps.getD y pq0).2 ∧
      w.ownsRow base TM 2 (.slice (some ⟨gq, 0, none⟩) (ps.getD y pq0).2.length cq) (ps.getD y pq0).2.length (mcells (ps.getD y pq0).2) := by
  have hg : ps.getD y pq0 = ps[y] := by simp [List.getD, hy]
  obtain ⟨ho, hne, hi⟩ := h.2 ps[y] (List.getElem_mem hy)
  have hpos : 0 < (ps[y]).2.length := List.length_pos_iff.2 hne
  obtain ⟨gq, cq, hv⟩ := ownsRow_form ho hpos
  rw [hg]
  refine ⟨gq, cq, ?_, hv, hpos, hi, by rw [← hv]; exact ho⟩
  rw [h.1.cellAt y (by omega), ← hv]
  simp [hy]
theorem le_sum_of_mem {l : List Nat} {x : Nat} (h : x ∈ l) : x ≤ l.sum := by
  induction l with
  | nil => simp at h
  | cons a r ih =>
    rw [List.sum_cons]
    rcases List.mem_cons.1 h with rfl | h
    · omega
    · have := ih h; omega
theorem tot_append (ps qs : List (Value × List (Int × Int))) : tot (ps ++ qs) = tot ps + tot qs := by simp [tot]
theorem tot_cons (q : Value × List (Int × Int)) (qs : List (Value × List (Int × Int))) : tot (q :: qs) = q.2.length + tot qs := by simp [tot]
theorem tot_parts (ps : List (Value × List (Int × Int))) (y : Nat) (hy : y < ps.length) : tot ps = tot (ps.take y) + ((ps[y]).2.length + tot (ps.drop (y + 1))) := by
  rw [← tot_cons, ← List.drop_eq_getElem_cons hy, ← tot_append, List.take_append_drop]
theorem tot_le {ps : List PQ} : ∀ {y : Nat}, y < ps.length → (ps.getD y pq0).2.length ≤ tot ps := by
  intro y hy
  have hg : ps.getD y pq0 = ps[y] := by simp [List.getD, hy]
  rw [hg]
  unfold tot
  exact le_sum_of_mem (List.mem_map.2 ⟨_, List.getElem_mem hy, rfl⟩)
theorem I64s_append {xs ys : List (Int × Int)} (h : I64s xs) (k : I64s ys) : I64s (xs ++ ys) := by
  intro m hm
  rcases List.mem_append.1 hm with hm | hm
  · exact h m hm
  · exact k m hm
/-- a part made one mark longer, and laid at its place -/
theorem part_not {w wr w5 : World} {b g cap y : Nat} {v2 : Value} {ps : List PQ} {kd : Int} (hb : b < w.heap.size) (hps : PartsIn wr w.heap.size (.slice (some ⟨g, 0, none⟩) ps.length cap) ps) (hy : y < ps.length) (hk : I64 kd)
    (hle : w.heap.size ≤ wr.heap.size) (hg : wr.grownBy w5 (some b)) (hown : w5.ownsRow wr.heap.size TM 2 v2 ((ps.getD y pq0).2.length + 1) (mcells (ps.getD y pq0).2 ++ mcells [(kd, 0)])) :
    ∃ ps' : List PQ, PartsIn (w5.setCell ⟨g, y, none⟩ v2) w.heap.size (.slice (some ⟨g, 0, none⟩) ps'.length cap) ps' ∧ ps'.length = ps.length ∧ tot ps' = tot ps + 1 := by
  have hq : ps.getD y pq0 = ps[y] := by simp [List.getD, hy]
  rw [hq] at hown
  have h5 := hps.row hg hb
  refine ⟨ps.set y (v2, (ps[y]).2 ++ [(kd, 0)]), ⟨?_, fun q hq => ?_⟩, by simp, ?_⟩
  · have := (h5.1.stored y v2).1
    simpa [List.map_set] using this
  · have hst := (h5.1.stored y v2).2
    rcases List.mem_or_eq_of_mem_set hq with hm | rfl
    · refine ⟨(h5.2 q hm).1.kept hst ?_, (h5.2 q hm).2⟩
      have := own_ne (h5.2 q hm).1 h5.1 (by decide)
      simpa [Value.ownBlock] using this
    · refine ⟨?_, by simp, I64s_append (h5.2 _ (List.getElem_mem hy)).2.2 (I64s_one hk (I64_small (by omega) (by omega)))⟩
      have h1 := own_mono hown hle
      have h2 : w5.ownsRow w.heap.size TM 2 v2 ((ps[y]).2 ++ [(kd, (0 : Int))]).length (mcells ((ps[y]).2 ++ [(kd, 0)])) := by rw [mcells_append]; simpa using h1
      refine h2.kept hst ?_
      have := own_ne h2 h5.1 (by decide)
      simpa [Value.ownBlock] using this
  · rw [List.set_eq_take_append_cons_drop, if_pos hy, tot_append, tot_cons, tot_parts ps y hy]
    simp
    omega

theorem news2 (W : World) (g : Nat) (hg : g = W.heap.size) (k x : Int) (T : TypeId) : ∀ (j : Nat) (u' : Value), (mcells [(k, x)])[j]? = some u' → (W.alloc (.cells #[.int .i64 k, .int .i64 x] T)).cell? ((⟨g, 0, none⟩ : Addr).add j) = some u' := by
  subst hg
  exact World.news_of_block (cs := #[.int .i64 k, .int .i64 x]) (t := T) (fr := (0, 0)) (heap_alloc_new W _)
/-- behind two appends onto a row of one's own: what stood before stands -/
theorem grown_any {a w : World} {row : Option Nat} (h : a.grownBy w none) : a.grownBy w row := ⟨h.os, h.tape, h.output, h.size, fun i hi _ => h.block i hi (by simp)⟩
theorem Rd.set {w : World} {b c g y : Nat} {u : Value} (h : Rd w b c) (hg : b < g) : Rd (w.setCell ⟨g, y, none⟩ u) b c := h.kept fun k hk => Below.heap_setCell _ _ _ _ (by intro e; simp at e; omega)
theorem grown2 {w4 w5 w6 : World} {v0 v1 : Value} {o0 o1 : Obj} (h1 : (w4.alloc o0).grownBy w5 v0.ownBlock) (h2 : (w5.alloc o1).grownBy w6 v1.ownBlock)
    (r0 : ∀ k, v0.ownBlock = some k → w4.heap.size ≤ k) (r1 : ∀ k, v1.ownBlock = some k → w4.heap.size ≤ k) : w4.grownBy w6 none :=
  grown_own (only_alloc (grown_own (only_alloc (World.grownBy.refl _ _) _) h1 r0) _) h2 r1

theorem own_cap {w : World} {base n size g cap : Nat} {e : TypeId} {xs : List Value} (h : w.ownsRow base e size (.slice (some ⟨g, 0, none⟩) n cap) n xs) : n ≤ cap ∧ cap ≤ maxLen := by
  rcases h.2 with ⟨h0, _⟩ | ⟨g', cap', cur, h0, _, _, hn, hm, _⟩
  · simp at h0
  · have : cap = cap' := by simpa using congrArg (fun v => match v with | Value.slice _ _ c => c | _ => 0) h0
    subst this; exact ⟨hn, hm⟩
theorem parts_one {w : World} {base : Nat} {v : Value} {ps : List PQ} (h : PartsIn w base v ps) : ∀ u ∈ ps.map (·.1), u.oneCell' = true := by
  intro u hu
  obtain ⟨q, hq, rfl⟩ := List.mem_map.1 hu
  rcases ownsRow_forms (h.2 q hq).1 with ⟨he, _⟩ | ⟨g, cap, he⟩ <;> rw [he] <;> rfl
theorem parts_take {w : World} {base g cap : Nat} {ps : List PQ} (h : PartsIn w base (.slice (some ⟨g, 0, none⟩) ps.length cap) ps) (y : Nat) : ∀ (j : Nat) (u : Value), ((ps.map (·.1)).take y)[j]? = some u → w.cell? ((⟨g, 0, none⟩ : Addr).add j) = some u := by
  intro j u hu
  refine h.1.cells (g := g) rfl j u ?_
  rw [List.getElem?_take] at hu
  split at hu
  · exact hu
  · cases hu
theorem add_plain' (g k j : Nat) : (⟨g, k, none⟩ : Addr).add j = ⟨g, k + j, none⟩ := by unfold Addr.add; split <;> simp_all
theorem parts_drop {w : World} {base g cap : Nat} {ps : List PQ} (h : PartsIn w base (.slice (some ⟨g, 0, none⟩) ps.length cap) ps) (y : Nat) : ∀ (j : Nat) (u : Value), ((ps.map (·.1)).drop y)[j]? = some u → w.cell? ((⟨g, y, none⟩ : Addr).add j) = some u := by
  intro j u hu
  rw [List.getElem?_drop] at hu
  have := h.1.cells (g := g) rfl (y + j) u hu
  rw [add_plain'] at this ⊢
  rwa [Nat.zero_add] at this
/-- two parts made one, and the row laid anew -/
theorem part_join {w wr w8 w9 : World} {b : Nat} {v vb v9 : Value} {y k : Nat} {ps : List PQ} {kd : Int} {xs9 : List Value} (hb : b < w.heap.size) (hps : PartsIn wr w.heap.size v ps) (hy : y + 1 < ps.length) (hk : I64 kd)
    (hle : w.heap.size ≤ wr.heap.size) (h8 : wr.grownBy w8 (some b)) (h9 : w8.grownBy w9 none)
    (hown : w8.ownsRow wr.heap.size TM 2 vb k (mcells (ps.getD y pq0).2 ++ mcells (ps.getD (y + 1) pq0).2 ++ mcells [(kd, 0)])) (hkk : k = (ps.getD y pq0).2.length + (ps.getD (y + 1) pq0).2.length + 1)
    (hrow : w9.ownsRow w8.heap.size TS 1 v9 (ps.length - 1) xs9) (hxs : xs9 = (ps.map (·.1)).take y ++ [vb] ++ (ps.map (·.1)).drop (y + 2)) :
    ∃ ps' : List PQ, PartsIn w9 w.heap.size v9 ps' ∧ ps'.length + 1 = ps.length ∧ tot ps' = tot ps + 1 := by
  have hq : ps.getD y pq0 = ps[y] := by simp [List.getD, show y < ps.length by omega]
  have hr : ps.getD (y + 1) pq0 = ps[y + 1] := by simp [List.getD, hy]
  rw [hq, hr] at hown hkk
  rw [hkk] at hown
  subst hxs
  have hle8 : w.heap.size ≤ w8.heap.size := Nat.le_trans hle h8.size
  have hp9 : PartsIn w9 w.heap.size v ps := (hps.row h8 hb).row (grown_any h9) hb
  have hlen : (ps.take y ++ (vb, (ps[y]).2 ++ (ps[y + 1]).2 ++ [(kd, (0 : Int))]) :: ps.drop (y + 2)).length = ps.length - 1 := by simp; omega
  refine ⟨ps.take y ++ (vb, (ps[y]).2 ++ (ps[y + 1]).2 ++ [(kd, (0 : Int))]) :: ps.drop (y + 2), ⟨?_, fun q hm => ?_⟩, by rw [hlen]; omega, ?_⟩
  · rw [hlen]
    have := own_mono hrow hle8
    simpa [List.map_take, List.map_drop] using this
  · rcases List.mem_append.1 hm with hm | hm
    · exact hp9.2 q (List.mem_of_mem_take hm)
    · rcases List.mem_cons.1 hm with rfl | hm
      · refine ⟨?_, by simp, I64s_append (I64s_append (hps.2 _ (List.getElem_mem _)).2.2 (hps.2 _ (List.getElem_mem _)).2.2) (I64s_one hk (I64_small (by omega) (by omega)))⟩
        have h1 := own_row (own_mono hown hle) (grown_any h9) hb
        have e : ((ps[y]).2 ++ (ps[y + 1]).2 ++ [(kd, (0 : Int))]).length = (ps[y]).2.length + (ps[y + 1]).2.length + 1 := by simp; omega
        rw [mcells_append, mcells_append]
        show w9.ownsRow w.heap.size TM 2 vb ((ps[y]).2 ++ (ps[y + 1]).2 ++ [(kd, (0 : Int))]).length _
        rw [e]
        exact h1
      · exact hp9.2 q (List.mem_of_mem_drop hm)
  · have e1 := tot_parts ps y (by omega)
    have e2 : tot (ps.drop (y + 1)) = (ps[y + 1]).2.length + tot (ps.drop (y + 2)) := by rw [List.drop_eq_getElem_cons hy, tot_cons]
    rw [tot_append, tot_cons]
    simp
    omega
theorem block_add (a : Addr) (n : Nat) : (a.add n).block = a.block := by unfold Addr.add; split <;> rfl
theorem cells_alloc {w : World} {g k : Nat} {xs : List Value} (h : ∀ (j : Nat) (u : Value), xs[j]? = some u → w.cell? ((⟨g, k, none⟩ : Addr).add j) = some u) (hg : g < w.heap.size) (o : Obj) :
    ∀ (j : Nat) (u : Value), xs[j]? = some u → (w.alloc o).cell? ((⟨g, k, none⟩ : Addr).add j) = some u := fun j u hu => by
  rw [← h j u hu]
  exact World.cell?_of_block (w := w) (Below.heap_alloc w o _ (by rw [block_add]; exact hg))
theorem cells_grown {w w' : World} {g k : Nat} {xs : List Value} (h : ∀ (j : Nat) (u : Value), xs[j]? = some u → w.cell? ((⟨g, k, none⟩ : Addr).add j) = some u) (hg : g < w.heap.size) (hG : w.grownBy w' none) :
    ∀ (j : Nat) (u : Value), xs[j]? = some u → w'.cell? ((⟨g, k, none⟩ : Addr).add j) = some u := fun j u hu => by
  rw [← h j u hu]
  exact hG.cell_far _ (by rw [block_add]; exact hg) (by simp)
theorem drop_none {w : World} {a : Addr} {xs : List Value} {n m : Nat} (h : xs.length = n - m) (hn : n ≤ m) : ∀ (j : Nat) (u : Value), xs[j]? = some u → w.cell? (a.add j) = some u := by
  intro j u hu
  have : xs = [] := List.eq_nil_of_length_eq_zero (by omega)
  subst this
  simp at hu

/-- the first mark written anew -/
theorem own_set0 {w : World} {base g n cap : Nat} {ms : List (Int × Int)} (h : w.ownsRow base TM 2 (.slice (some ⟨g, 0, none⟩) n cap) n (mcells ms)) (hl : ms.length = n) (hn : 0 < n) (k x : Int) (hk : I64 k) (hx : I64 x) (hi : I64s ms) :
    ∃ u1 u2, w.cell? ⟨g, 0, none⟩ = some u1 ∧ w.cell? ⟨g, 1, none⟩ = some u2 ∧ w.frozen? ⟨g, 0, none⟩ = false ∧ w.frozen? ⟨g, 1, none⟩ = false ∧
      ∃ ms' : List (Int × Int), ((w.setCell ⟨g, 0, none⟩ (.int .i64 k)).setCell ⟨g, 1, none⟩ (.int .i64 x)).ownsRow base TM 2 (.slice (some ⟨g, 0, none⟩) n cap) ms'.length (mcells ms') ∧ I64s ms' ∧ ms'.length = n := by
  match ms, hl with
  | [], hl => simp at hl; omega
  | m :: r, hl =>
    have h1 := h.cellAt 0 (by omega)
    have h2 := h.cellAt 1 (by omega)
    have h3 := ((h.stored 0 (.int .i64 k)).1.stored 1 (.int .i64 x)).1
    refine ⟨_, _, h1, h2, h.frozenAt 0, h.frozenAt 1, (k, x) :: r, ?_, ?_, hl⟩
    · have : ((k, x) :: r).length = n := hl
      rw [this]
      exact h3
    · intro y hy
      rcases List.mem_cons.1 hy with rfl | hy
      · exact ⟨hk, hx⟩
      · exact hi y (by simp [hy])

/-- draws ahead are no matter -/
theorem grownBy_drewX {a b : World} {n : Nat} {row : Option Nat} (h : (a.drewN n).grownBy b row) : a.grownBy b row := ⟨h.os, h.tape, h.output, h.size, h.block⟩
theorem own_none {w w' : World} {base size n : Nat} {e : TypeId} {v : Value} {xs : List Value} (h : w.ownsRow base e size v n xs) (hg : w.grownBy w' none) : w'.ownsRow base e size v n xs := by
  refine h.kept hg ?_
  cases v.ownBlock with
  | none => exact .inl rfl
  | some g => exact .inr (by simp)
theorem I64s_two {k x l y : Int} (hk : I64 k) (hx : I64 x) (hl : I64 l) (hy : I64 y) : I64s [(k, x), (l, y)] := by
  intro m hm
  simp at hm
  rcases hm with rfl | rfl
  · exact ⟨hk, hx⟩
  · exact ⟨hl, hy⟩
theorem below_none {w w' : World} (hg : w.grownBy w' none) : Below w.heap.size w w' := ⟨hg.os, hg.tape, hg.output, hg.size, fun i hi => hg.block i hi (by simp)⟩
theorem news4 (W : World) (g : Nat) (hg : g = W.heap.size) (k x l y : Int) (T : TypeId) : ∀ (j : Nat) (u' : Value), (mcells [(k, x), (l, y)])[j]? = some u' → (W.alloc (.cells #[.int .i64 k, .int .i64 x, .int .i64 l, .int .i64 y] T)).cell? ((⟨g, 0, none⟩ : Addr).add j) = some u' := by
  subst hg
  exact World.news_of_block (cs := #[.int .i64 k, .int .i64 x, .int .i64 l, .int .i64 y]) (t := T) (fr := (0, 0)) (heap_alloc_new W _)
theorem RdMarks.kept {w w' : World} {v : Value} {ms : List (Int × Int)} (h : RdMarks w w.heap.size v ms) (hb : Below w.heap.size w w') : RdMarks w' w'.heap.size v ms := (h.below hb.block).mono hb.size
/-- a row of one mark, just laid -/
theorem RdMarks.one (w : World) (k x : Int) (T : TypeId) (hk : I64 k) (hx : I64 x) : RdMarks (w.alloc (.cells #[.int .i64 k, .int .i64 x] T)) (w.heap.size + 1) (.slice (some ⟨w.heap.size, 0, none⟩) 1 1) [(k, x)] := by
  refine ⟨_, 1, rfl, Nat.le_refl _, by unfold maxLen; omega, I64s_one hk hx, fun j hj => ⟨w.heap.size, 0, rfl, by omega, ?_, ?_⟩⟩
  all_goals
    have : j = 0 := by simpa using hj
    subst this
    rw [cell_of_row _ _ _ _ _ (0, 0) (heap_alloc_new w _)]
    rfl
theorem own_apart {v : Value} {row : Option Nat} {s : Nat} (h : ∀ k, v.ownBlock = some k → k < s) (hr : ∀ k, row = some k → s ≤ k) : v.ownBlock = none ∨ v.ownBlock ≠ row := by
  cases hv : v.ownBlock with
  | none => exact .inl rfl
  | some g => right; intro e; have := hr g e.symm; have := h g hv; omega
theorem own_apart' {v : Value} {row : Option Nat} {s : Nat} (h : ∀ k, v.ownBlock = some k → s ≤ k) (hr : ∀ k, row = some k → k < s) : v.ownBlock = none ∨ v.ownBlock ≠ row := by
  cases hv : v.ownBlock with
  | none => exact .inl rfl
  | some g => right; intro e; have := hr g e.symm; have := h g hv; omega
end Go.Proofs.Ytbnickgjnglblaa
/- Contracts of the reference's truth of terms: a part in a world, the table of a term. -/
namespace Go.Proofs.Ytbnickgjnglblaa
open Go.RowKit
/-- the reference tells of this term, wherever its marks stand, whether it holds -/
def HoldAt (f : Nat) (t : Tm) : Prop := ∀ (W : Nat) (B : Nat) (v : Value) (w : World), W < 16 → RdMarks w B v t.post → B ≤ w.heap.size →
  Calls Try.prog f #[v, .int .i64 W] w fun e w' => e = .returned (.bool (holds W t)) ∧ Below w.heap.size w w'
theorem heads_small {W : Nat} (h : W < 16) : heads W < 16 := Nat.lt_of_le_of_lt (heads_le W) h
theorem holds_leaf0 (W : Nat) (x : Int) : holds W (.leaf 0 x) = W.testBit x.toNat := by rw [holds, if_pos rfl]
theorem holds_leaf1 (W : Nat) (x : Int) : holds W (.leaf 1 x) = decide (x ≤ (heads W : Int)) := by rw [holds, if_neg (by decide)]
theorem below_undrewS {B : Nat} {w w' : World} (h : Below B w.drew w') : Below B w w' := ⟨h.os, h.tape, h.output, h.size, h.block⟩
theorem below_undrewN {B : Nat} {w w' : World} {n : Nat} (h : Below B (w.drewN n) w') : Below B w w' := ⟨h.os, h.tape, h.output, h.size, h.block⟩
theorem tb_of {W : Nat} (hW : W < 16) : ((W : Int) % 2 == 1) = W.testBit 0 ∧ ((W : Int) / 2 % 2 == 1) = W.testBit 1 ∧ ((W : Int) / 4 % 2 == 1) = W.testBit 2 ∧ ((W : Int) / 8 % 2 == 1) = W.testBit 3 := by
  have h : ∀ V : Fin 16, ((V.val : Int) % 2 == 1) = V.val.testBit 0 ∧ ((V.val : Int) / 2 % 2 == 1) = V.val.testBit 1 ∧ ((V.val : Int) / 4 % 2 == 1) = V.val.testBit 2 ∧ ((V.val : Int) / 8 % 2 == 1) = V.val.testBit 3 := by decide +kernel
  exact h ⟨W, hW⟩
attribute [local irreducible] holds heads
end Go.Proofs.Ytbnickgjnglblaa

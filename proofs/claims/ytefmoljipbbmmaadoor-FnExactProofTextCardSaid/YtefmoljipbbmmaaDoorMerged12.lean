/- Texts of a proof, merged: ProveP, ProveN, ProveS, ProveC, ProveG. -/
import Derived.Test.YtefmoljipbbmmaaDoorMerged11
import Derived.Test.YtefmoljipbbmmaaDoorMerged7
import Derived.Test.YtefmoljipbbmmaaDoorMerged10
/- Proofs by cases: what is a proof, and that trees are proofs; texts of trees, and their reading; without code. -/
namespace Go.Proofs.YtefmoljipbbmmaaDoor
open Go.RowKit
/-- whether splits and a first target are a proof -/
def proofV (P : Nat) (hf : Nat → Bool) (cl : List (Nat → Bool)) (sp : List Sp3) (fi : Int) : Bool :=
  decide (sp.length ≤ 15) && (decide (fi ≤ 0) && (!(decide (fi = 0) && decide (sp.length = 0)) && (decide (checks P hf cl sp (sp.length + 1) fi (noneK P) = some sp.length) && onceB sp)))
theorem proofV_iff {P : Nat} {hf : Nat → Bool} {cl : List (Nat → Bool)} {sp : List Sp3} {fi : Int} :
    proofV P hf cl sp fi = true ↔ sp.length ≤ 15 ∧ fi ≤ 0 ∧ ¬ (fi = 0 ∧ sp.length = 0) ∧ checks P hf cl sp (sp.length + 1) fi (noneK P) = some sp.length ∧ onceB sp = true := by
  unfold proofV
  rw [Bool.and_eq_true, Bool.and_eq_true, Bool.and_eq_true, Bool.and_eq_true, decide_eq_true_eq, decide_eq_true_eq, decide_eq_true_eq, Bool.not_eq_true', Bool.and_eq_false_iff, decide_eq_false_iff_not, decide_eq_false_iff_not]
  constructor
  · rintro ⟨h1, h2, h3, h4⟩; exact ⟨h1, h2, by omega, h4⟩
  · rintro ⟨h1, h2, h3, h4⟩; exact ⟨h1, h2, by omega, h4⟩
theorem proof_tree {P : Nat} {hf : Nat → Bool} {cl : List (Nat → Bool)} {sp : List Sp3} {fi : Int} (h : proofV P hf cl sp fi = true) :
    (treeOf sp (sp.length + 1) fi).ok P hf cl (noneK P) = true ∧ (treeOf sp (sp.length + 1) fi).size = sp.length :=
  checks_tree _ _ _ _ (proofV_iff.1 h).2.2.2.1
/-- what is proved follows -/
theorem proof_sound {P : Nat} {hf : Nat → Bool} {cl : List (Nat → Bool)} {sp : List Sp3} {fi : Int} (h : proofV P hf cl sp fi = true) {W : Nat} (hW : W < 2 ^ P) (hc : ∀ c ∈ cl, c W = true) : hf W = true :=
  PT.sound _ _ (noneK_len P) (proof_tree h).1 W hW (noneK_agree P W) hc
theorem checks_more {P : Nat} {hf : Nat → Bool} {cl ds : List (Nat → Bool)} {sp : List Sp3} : ∀ (f : Nat) (g : Int) (kn : List Int) (n : Nat), checks P hf cl sp f g kn = some n → checks P hf (cl ++ ds) sp f g kn = some n := by
  intro f
  induction f with
  | zero => intro g kn n h; cases h
  | succ f ih =>
    intro g kn n h
    by_cases hg : g < 0
    · unfold checks at h ⊢
      rw [if_pos hg] at h ⊢
      split at h
      · rename_i hc
        rw [if_pos (close_more hc)]; exact h
      · cases h
    · obtain ⟨k, x, y, a, b, hs, hk, hn, hx, hy, ha, hb, rfl⟩ := checks_node (by omega) h
      exact checks_of (by omega) hs hk hn hx hy (ih _ _ _ ha) (ih _ _ _ hb)
/-- with further claims behind it is a proof still -/
theorem proof_more {P : Nat} {hf : Nat → Bool} {cl ds : List (Nat → Bool)} {sp : List Sp3} {fi : Int} (h : proofV P hf cl sp fi = true) : proofV P hf (cl ++ ds) sp fi = true := by
  rw [proofV_iff] at h ⊢
  exact ⟨h.1, h.2.1, h.2.2.1, checks_more _ _ _ _ h.2.2.2.1, h.2.2.2.2⟩
/-- the splits of a right tree are a proof -/
theorem flat_proof {P : Nat} {hf : Nat → Bool} {cl : List (Nat → Bool)} {t : PT} (h : t.ok P hf cl (noneK P) = true) (hs : t.size ≤ 15) : proofV P hf cl (t.flat 0) (t.tgt 0) = true := by
  have ht := PT.ok_tight t _ h
  have hr := PT.tgt_range ht 0
  rw [proofV_iff, PT.flat_len]
  refine ⟨hs, by omega, fun hh => by omega, ?_, ?_⟩
  · have := PT.flat_checks t (noneK P) [] [] (t.size + 1) h (by omega)
    simpa using this
  · obtain ⟨h1, h2⟩ := PT.flat_nexts t 0 ht
    unfold onceB
    rw [Bool.and_eq_true, List.all_eq_true, decide_eq_true_eq]
    refine ⟨fun x hx => ?_, h2⟩
    have := h1 x hx
    rw [decide_eq_true_eq, PT.flat_len]; omega
/-- a right tree for at most four is of at most fifteen splits -/
theorem PT.size_15 {P : Nat} {hf : Nat → Bool} {cl : List (Nat → Bool)} {t : PT} (hP : P ≤ 4) (h : t.ok P hf cl (noneK P) = true) : t.size ≤ 15 := by
  have h1 := PT.size_le t _ (noneK_len P) h
  rw [noneK_unk] at h1
  have : 2 ^ P ≤ 2 ^ 4 := Nat.pow_le_pow_right (by decide) hP
  omega
/-! ### texts -/
def PT.text : PT → List Nat
  | .leaf g => if g = -1 then [42] else [48 + (-2 - g).toNat]
  | .node k a b => [97 + k, 40] ++ a.text ++ [44] ++ b.text ++ [41]
/-- reading a tree from a text on, n splits having been read before -/
def readT : Nat → List Nat → Nat → Option (PT × List Nat)
  | 0, _, _ => none
  | f + 1, s, n =>
    match s with
    | [] => none
    | c :: r =>
      if c = 42 then some (.leaf (-1), r)
      else if 48 ≤ c ∧ c ≤ 53 then some (.leaf (-2 - ((c - 48 : Nat) : Int)), r)
      else if 97 ≤ c ∧ c ≤ 100 ∧ r.head? = some 40 ∧ n < 15 then
        match readT f r.tail (n + 1) with
        | none => none
        | some (a, r2) => if r2.head? = some 44 then
            match readT f r2.tail (n + 1 + a.size) with
            | none => none
            | some (b, r3) => if r3.head? = some 41 then some (.node (c - 97) a b, r3.tail) else none
          else none
      else none
theorem head_cons {l : List Nat} {c : Nat} (h : l.head? = some c) : l = c :: l.tail := by
  cases l with
  | nil => cases h
  | cons x l => simp at h; subst h; rfl
/-- whether the text of a tree can be read -/
def PT.fine : PT → Bool
  | .leaf g => decide (-7 ≤ g ∧ g < 0)
  | .node k a b => decide (k < 4) && (a.fine && b.fine)
theorem readT_node {f : Nat} {c : Nat} {r : List Nat} {n : Nat} {t : PT} {q : List Nat} (h1 : c ≠ 42) (h2 : ¬ (48 ≤ c ∧ c ≤ 53)) (h : readT (f + 1) (c :: r) n = some (t, q)) :
    ∃ r1 a r2 b, 97 ≤ c ∧ c ≤ 100 ∧ r = 40 :: r1 ∧ n < 15 ∧ readT f r1 (n + 1) = some (a, 44 :: r2) ∧ readT f r2 (n + 1 + a.size) = some (b, 41 :: q) ∧ t = .node (c - 97) a b := by
  unfold readT at h
  dsimp only at h
  rw [if_neg h1, if_neg h2] at h
  split at h
  · rename_i hc
    split at h
    · cases h
    · rename_i a r2 ha
      split at h
      · rename_i hr2
        split at h
        · cases h
        · rename_i b r3 hb
          split at h
          · rename_i hr3
            cases h
            refine ⟨r.tail, a, r2.tail, b, hc.1, hc.2.1, head_cons hc.2.2.1, hc.2.2.2, ?_, ?_, rfl⟩
            · rw [ha, ← head_cons hr2]
            · rw [hb, ← head_cons hr3]
          · cases h
      · cases h
  · cases h
theorem readT_of {f : Nat} {c : Nat} {r1 r2 q : List Nat} {n : Nat} {a b : PT} (h1 : 97 ≤ c) (h2 : c ≤ 100) (hn : n < 15) (ha : readT f r1 (n + 1) = some (a, 44 :: r2)) (hb : readT f r2 (n + 1 + a.size) = some (b, 41 :: q)) :
    readT (f + 1) (c :: 40 :: r1) n = some (.node (c - 97) a b, q) := by
  unfold readT
  dsimp only
  rw [if_neg (by omega), if_neg (by omega), if_pos ⟨h1, h2, rfl, hn⟩, List.tail_cons, ha]
  dsimp only
  rw [List.head?_cons, if_pos rfl, List.tail_cons, hb]
  dsimp only
  rw [List.head?_cons, if_pos rfl, List.tail_cons]
/-- the text of a tree is read as it -/
theorem read_text : ∀ (t : PT) (f n : Nat) (q : List Nat), t.fine = true → t.size < f → n + t.size ≤ 15 → readT f (t.text ++ q) n = some (t, q)
  | .leaf g, f, n, q, h, hf, hn => by
    obtain ⟨f, rfl⟩ : ∃ f', f = f' + 1 := ⟨f - 1, by omega⟩
    rw [PT.fine, decide_eq_true_eq] at h
    rw [PT.text]
    by_cases hg : g = -1
    · subst hg; rfl
    · rw [if_neg hg]
      show readT (f + 1) ((48 + (-2 - g).toNat) :: q) n = _
      unfold readT
      dsimp only
      rw [if_neg (by omega), if_pos (by omega), show -2 - (((48 + (-2 - g).toNat) - 48 : Nat) : Int) = g by omega]
  | .node k a b, f, n, q, h, hf, hn => by
    obtain ⟨f, rfl⟩ : ∃ f', f = f' + 1 := ⟨f - 1, by omega⟩
    rw [PT.fine, Bool.and_eq_true, Bool.and_eq_true, decide_eq_true_eq] at h
    have hsz : (PT.node k a b).size = 1 + a.size + b.size := rfl
    have ha := read_text a f (n + 1) (44 :: (b.text ++ 41 :: q)) h.2.1 (by omega) (by omega)
    have hb := read_text b f (n + 1 + a.size) (41 :: q) h.2.2 (by omega) (by omega)
    have := readT_of (c := 97 + k) (by omega) (by omega) (by omega) ha hb
    rw [show 97 + k - 97 = k by omega] at this
    rw [PT.text, ← this]
    simp
/-- each text is read in one way alone: what is read has it -/
theorem text_read : ∀ (f : Nat) (s : List Nat) (n : Nat) (t : PT) (q : List Nat), readT f s n = some (t, q) → t.text ++ q = s ∧ t.fine = true ∧ (n ≤ 15 → n + t.size ≤ 15) := by
  intro f
  induction f with
  | zero => intro s n t q h; cases h
  | succ f ih =>
    intro s n t q h
    cases s with
    | nil => unfold readT at h; cases h
    | cons c r =>
      by_cases h1 : c = 42
      · subst h1
        unfold readT at h
        dsimp only at h
        rw [if_pos rfl] at h
        cases h
        exact ⟨rfl, rfl, fun h => h⟩
      · by_cases h2 : 48 ≤ c ∧ c ≤ 53
        · unfold readT at h
          dsimp only at h
          rw [if_neg h1, if_pos h2] at h
          cases h
          refine ⟨?_, ?_, fun h => h⟩
          · rw [PT.text, if_neg (by omega), show 48 + (-2 - (-2 - ((c - 48 : Nat) : Int))).toNat = c by omega]; rfl
          · rw [PT.fine, decide_eq_true_eq]; omega
        · obtain ⟨r1, a, r2, b, h3, h4, rfl, hn, ha, hb, rfl⟩ := readT_node h1 h2 h
          obtain ⟨a1, a2, a3⟩ := ih _ _ _ _ ha
          obtain ⟨b1, b2, b3⟩ := ih _ _ _ _ hb
          refine ⟨?_, ?_, fun _ => ?_⟩
          · rw [PT.text, ← a1, ← b1, show 97 + (c - 97) = c by omega]; simp
          · rw [PT.fine, a2, b2, decide_eq_true (by omega)]; rfl
          · have := a3 (by omega)
            have := b3 (by omega)
            show n + (1 + a.size + b.size) ≤ 15
            omega
/-- what stands behind is not looked at -/
theorem read_behind : ∀ (f : Nat) (s : List Nat) (n : Nat) (t : PT) (q e : List Nat), readT f s n = some (t, q) → readT f (s ++ e) n = some (t, q ++ e) := by
  intro f
  induction f with
  | zero => intro s n t q e h; cases h
  | succ f ih =>
    intro s n t q e h
    cases s with
    | nil => unfold readT at h; cases h
    | cons c r =>
      by_cases h1 : c = 42
      · subst h1
        unfold readT at h ⊢
        dsimp only [List.cons_append] at h ⊢
        rw [if_pos rfl] at h ⊢
        cases h; rfl
      · by_cases h2 : 48 ≤ c ∧ c ≤ 53
        · unfold readT at h ⊢
          dsimp only [List.cons_append] at h ⊢
          rw [if_neg h1, if_pos h2] at h ⊢
          cases h; rfl
        · obtain ⟨r1, a, r2, b, h3, h4, rfl, hn, ha, hb, rfl⟩ := readT_node h1 h2 h
          exact readT_of h3 h4 hn (ih _ _ _ _ e ha) (ih _ _ _ _ e hb)
/-- a right tree's text can be read, if there are at most six claims and at most four people -/
theorem PT.ok_fine {P : Nat} {hf : Nat → Bool} {cl : List (Nat → Bool)} (hP : P ≤ 4) (hc : cl.length ≤ 6) : ∀ (t : PT) (kn : List Int), t.ok P hf cl kn = true → t.fine = true
  | .leaf g, kn, h => by
    rw [PT.ok, Bool.and_eq_true, decide_eq_true_eq] at h
    rw [PT.fine, decide_eq_true_eq]
    by_cases hg : g = -1
    · omega
    · have := ((close_claim hg).1 h.2).1
      omega
  | .node k a b, kn, h => by
    rw [PT.ok, Bool.and_eq_true, Bool.and_eq_true, Bool.and_eq_true, decide_eq_true_eq] at h
    rw [PT.fine, PT.ok_fine hP hc a _ h.2.2.1, PT.ok_fine hP hc b _ h.2.2.2, decide_eq_true (by omega)]; rfl
theorem PT.text_len : ∀ (t : PT), t.text.length = 5 * t.size + 1
  | .leaf g => by rw [PT.text]; split <;> rfl
  | .node k a b => by
    have := PT.text_len a
    have := PT.text_len b
    have hsz : (PT.node k a b).size = 1 + a.size + b.size := rfl
    rw [hsz, PT.text]
    simp only [List.length_append, List.length_cons, List.length_nil]
    omega
theorem PT.text_ne (t : PT) : t.text ≠ [] := fun h => by
  have := PT.text_len t
  rw [h] at this; simp at this
/-- the tree of a tree's splits -/
theorem treeOf_flat : ∀ (t : PT) (pre post : List Sp3) (f : Nat), t.tight = true → t.size < f → treeOf (pre ++ t.flat pre.length ++ post) f (t.tgt pre.length) = t
  | .leaf g, pre, post, f, h, hf' => by
    obtain ⟨f, rfl⟩ : ∃ f', f = f' + 1 := ⟨f - 1, by omega⟩
    unfold treeOf
    have : g < 0 := of_decide_eq_true h
    show (if g < 0 then PT.leaf g else _) = _
    rw [if_pos this]
  | .node k a b, pre, post, f, h, hf' => by
    obtain ⟨f, rfl⟩ : ∃ f', f = f' + 1 := ⟨f - 1, by omega⟩
    rw [PT.tight, Bool.and_eq_true] at h
    have hsz : (PT.node k a b).size = 1 + a.size + b.size := rfl
    have hla := PT.flat_len a (pre.length + 1)
    have e1 : pre ++ (PT.node k a b).flat pre.length ++ post = (pre ++ [((k : Int), a.tgt (pre.length + 1), b.tgt (pre.length + 1 + a.size))]) ++ a.flat (pre.length + 1) ++ (b.flat (pre.length + 1 + a.size) ++ post) := by
      simp [PT.flat]
    have e2 : pre ++ (PT.node k a b).flat pre.length ++ post = (pre ++ [((k : Int), a.tgt (pre.length + 1), b.tgt (pre.length + 1 + a.size))] ++ a.flat (pre.length + 1)) ++ b.flat (pre.length + 1 + a.size) ++ post := by
      simp [PT.flat]
    have l1 : (pre ++ [((k : Int), a.tgt (pre.length + 1), b.tgt (pre.length + 1 + a.size))]).length = pre.length + 1 := by simp
    have l2 : (pre ++ [((k : Int), a.tgt (pre.length + 1), b.tgt (pre.length + 1 + a.size))] ++ a.flat (pre.length + 1)).length = pre.length + 1 + a.size := by rw [List.length_append, l1, hla]
    have ca := treeOf_flat a (pre ++ [((k : Int), a.tgt (pre.length + 1), b.tgt (pre.length + 1 + a.size))]) (b.flat (pre.length + 1 + a.size) ++ post) f h.1 (by omega)
    have cb := treeOf_flat b (pre ++ [((k : Int), a.tgt (pre.length + 1), b.tgt (pre.length + 1 + a.size))] ++ a.flat (pre.length + 1)) post f h.2 (by omega)
    rw [l1, ← e1] at ca
    rw [l2, ← e2] at cb
    have hget : (pre ++ (PT.node k a b).flat pre.length ++ post).getD pre.length sp0 = ((k : Int), a.tgt (pre.length + 1), b.tgt (pre.length + 1 + a.size)) := by
      simp [PT.flat, List.getD]
    unfold treeOf
    rw [if_neg (show ¬ ((PT.node k a b).tgt pre.length < 0) from fun h => by have h : (pre.length : Int) < 0 := h; omega), show ((PT.node k a b).tgt pre.length).toNat = pre.length from Int.toNat_natCast _, hget]
    dsimp only
    rw [Int.toNat_natCast, ca, cb]
end Go.Proofs.YtefmoljipbbmmaaDoor
/- Proofs by cases of terms from stories: what follows, what is a proof, what is found; the mathematics of the laws. -/
namespace Go.Proofs.YtefmoljipbbmmaaDoor
open Go.RowKit
def hfV (p : Int) (ms : List (Int × Int)) : Nat → Bool := fun w => holds w (tmOf p ms)
def clL (p : Int) (s : List Cl) : List (Nat → Bool) := s.map (mayT p)
theorem clL_len (p : Int) (s : List Cl) : (clL p s).length = s.length := by simp [clL]
theorem clL_all {p : Int} {s : List Cl} {W : Nat} : (∀ c ∈ clL p s, c W = true) ↔ storyT p s W = true := by
  unfold clL storyT
  rw [List.all_eq_true]
  constructor
  · intro h c hc; exact h _ (List.mem_map.2 ⟨c, hc, rfl⟩)
  · intro h f hf
    obtain ⟨c, hc, rfl⟩ := List.mem_map.1 hf
    exact h c hc
theorem clL_append (p : Int) (s r : List Cl) : clL p (s ++ r) = clL p s ++ clL p r := by simp [clL]
/-- whether a term holds in all worlds of a story -/
def followsF (p : Int) (s : List Cl) (ms : List (Int × Int)) : Bool := storyOk p s && (termOk p ms && decide (∀ w, w < 2 ^ p.toNat → storyT p s w = true → hfV p ms w = true))
theorem followsF_iff {p : Int} {s : List Cl} {ms : List (Int × Int)} : followsF p s ms = true ↔ storyOk p s = true ∧ termOk p ms = true ∧ ∀ w, w < 2 ^ p.toNat → storyT p s w = true → hfV p ms w = true := by
  unfold followsF
  rw [Bool.and_eq_true, Bool.and_eq_true, decide_eq_true_eq]
theorem followsF_no1 {p : Int} {s : List Cl} {ms : List (Int × Int)} (h : storyOk p s = false) : followsF p s ms = false := by unfold followsF; rw [h]; rfl
theorem followsF_no2 {p : Int} {s : List Cl} {ms : List (Int × Int)} (h : termOk p ms = false) : followsF p s ms = false := by unfold followsF; rw [h]; simp
theorem less_tab {N : Nat} {f g : Nat → Bool} : tabF N f ^^^ (tabF N f &&& tabF N g) = 0 ↔ ∀ w, w < N → f w = true → g w = true := by
  rw [less_zero]
  constructor
  · intro h w hw hf
    have := h w (by rw [tabF_bit, decide_eq_true hw, hf]; rfl)
    rw [tabF_bit, Bool.and_eq_true] at this
    exact this.2
  · intro h j hj
    rw [tabF_bit, Bool.and_eq_true, decide_eq_true_eq] at hj
    rw [tabF_bit, decide_eq_true hj.1, h j hj.1 hj.2]; rfl
theorem and_tab {N : Nat} {f g : Nat → Bool} : tabF N f &&& tabF N g = 0 ↔ ∀ w, w < N → f w = true → g w = false := by
  rw [tabF_and]
  constructor
  · intro h w hw hf
    have := congrArg (fun x => x.testBit w) h
    rw [tabF_bit, decide_eq_true hw, hf, Nat.zero_testBit] at this
    simpa using this
  · intro h
    refine Nat.eq_of_testBit_eq fun w => ?_
    rw [tabF_bit, Nat.zero_testBit]
    by_cases hw : w < N
    · cases hf : f w with
      | false => simp
      | true => rw [h w hw hf]; simp
    · rw [decide_eq_false hw]; rfl
theorem follows_tab {p : Int} {s : List Cl} {ms : List (Int × Int)} (hs : storyOk p s = true) (ht : termOk p ms = true) : followsF p s ms = (((storyN p s ^^^ (storyN p s &&& tabN p ms) : Nat) : Int) == 0) := by
  rw [Bool.eq_iff_iff, followsF_iff, beq_iff_eq]
  have h := less_tab (N := 2 ^ p.toNat) (f := storyT p s) (g := hfV p ms)
  have e : storyN p s ^^^ (storyN p s &&& tabN p ms) = tabF (2 ^ p.toNat) (storyT p s) ^^^ (tabF (2 ^ p.toNat) (storyT p s) &&& tabF (2 ^ p.toNat) (hfV p ms)) := rfl
  rw [e]
  constructor
  · rintro ⟨_, _, h3⟩; have := h.2 h3; omega
  · intro h0; exact ⟨hs, ht, h.1 (by omega)⟩
/-- the table of the worlds that agree with what is known -/
def agreeN (p : Int) (kn : List Int) : Nat := tabF (2 ^ p.toNat) (agreeB p.toNat kn)
theorem agreeN_lt {p : Int} {kn : List Int} (h4 : p ≤ 4) : agreeN p kn < 65536 := by
  have h2 := tabF_lt (2 ^ p.toNat) (agreeB p.toNat kn)
  have h3 : 2 ^ p.toNat ≤ 16 := two16 (by omega)
  have h5 : 2 ^ (2 ^ p.toNat) ≤ 2 ^ 16 := Nat.pow_le_pow_right (by decide) h3
  unfold agreeN
  omega
theorem close_goal_tab {p : Int} {s : List Cl} {ms : List (Int × Int)} {kn : List Int} : closeB p.toNat (hfV p ms) (clL p s) (-1) kn = (((agreeN p kn ^^^ (agreeN p kn &&& tabN p ms) : Nat) : Int) == 0) := by
  rw [Bool.eq_iff_iff, close_goal, beq_iff_eq]
  have h := less_tab (N := 2 ^ p.toNat) (f := agreeB p.toNat kn) (g := hfV p ms)
  have e : agreeN p kn ^^^ (agreeN p kn &&& tabN p ms) = tabF (2 ^ p.toNat) (agreeB p.toNat kn) ^^^ (tabF (2 ^ p.toNat) (agreeB p.toNat kn) &&& tabF (2 ^ p.toNat) (hfV p ms)) := rfl
  rw [e, ← h]
  omega
theorem close_claim_tab {p : Int} {s : List Cl} {ms : List (Int × Int)} {kn : List Int} {j : Nat} (hj : j < s.length) : closeB p.toNat (hfV p ms) (clL p s) (-2 - j) kn = (((agreeN p kn &&& ctabN p (s.getD j (0, [])) : Nat) : Int) == 0) := by
  rw [Bool.eq_iff_iff, close_claim (by omega), beq_iff_eq]
  have h := and_tab (N := 2 ^ p.toNat) (f := agreeB p.toNat kn) (g := mayT p (s.getD j (0, [])))
  have e : agreeN p kn &&& ctabN p (s.getD j (0, [])) = tabF (2 ^ p.toNat) (agreeB p.toNat kn) &&& tabF (2 ^ p.toNat) (mayT p (s.getD j (0, []))) := rfl
  have eg : (clL p s).getD (-2 - (-2 - (j : Int))).toNat (fun _ => true) = mayT p (s.getD j (0, [])) := by
    rw [show (-2 - (-2 - (j : Int))).toNat = j by omega]
    unfold clL
    simp [List.getD, hj]
  rw [e, eg, clL_len]
  constructor
  · rintro ⟨_, h2⟩; have := h.2 h2; omega
  · intro h0; exact ⟨by omega, h.1 (by omega)⟩
theorem close_past {p : Int} {s : List Cl} {ms : List (Int × Int)} {kn : List Int} {g : Int} (hg : g ≠ -1) (h : ¬ (0 ≤ -2 - g ∧ -2 - g < s.length)) : closeB p.toNat (hfV p ms) (clL p s) g kn = false := by
  cases hc : closeB p.toNat (hfV p ms) (clL p s) g kn with
  | false => rfl
  | true => rw [close_claim hg, clL_len] at hc; exact absurd hc.1 h
/-- whether splits and a first target prove a term from a story -/
def provesF (p : Int) (s : List Cl) (ms : List (Int × Int)) (sp : List Sp3) (fi : Int) : Bool := storyOk p s && (termOk p ms && proofV p.toNat (hfV p ms) (clL p s) sp fi)
theorem provesF_iff {p : Int} {s : List Cl} {ms : List (Int × Int)} {sp : List Sp3} {fi : Int} : provesF p s ms sp fi = true ↔ storyOk p s = true ∧ termOk p ms = true ∧ proofV p.toNat (hfV p ms) (clL p s) sp fi = true := by
  unfold provesF
  rw [Bool.and_eq_true, Bool.and_eq_true]
/-- what is found -/
def findF (p : Int) (s : List Cl) (ms : List (Int × Int)) : Option PT := if (storyOk p s && termOk p ms) = true then growT p.toNat (hfV p ms) (clL p s) p.toNat (noneK p.toNat) else none
theorem noneK_le (P : Nat) : ∀ k, k < P → (noneK P).getD k 0 ≤ 1 := fun k hk => by rw [noneK_get hk]; decide
/-- a proof is found exactly if the term follows -/
theorem find_iff {p : Int} {s : List Cl} {ms : List (Int × Int)} : (findF p s ms).isSome = followsF p s ms := by
  unfold findF
  cases hs : storyOk p s with
  | false => rw [followsF_no1 hs]; rfl
  | true =>
    cases ht : termOk p ms with
    | false => rw [followsF_no2 ht]; rfl
    | true =>
      rw [if_pos (show (true && true) = true from rfl), Bool.eq_iff_iff, grow_iff (noneK_len _) (by rw [noneK_unk]; exact Nat.le_refl _) (noneK_le _), followsF_iff]
      constructor
      · intro h; exact ⟨hs, ht, fun w hw hst => h w hw (noneK_agree _ _) (clL_all.2 hst)⟩
      · rintro ⟨_, _, h⟩ w hw _ hc; exact h w hw (clL_all.1 hc)
/-- and what is found is a proof -/
theorem find_proof {p : Int} {s : List Cl} {ms : List (Int × Int)} {t : PT} (h : findF p s ms = some t) : provesF p s ms (t.flat 0) (t.tgt 0) = true := by
  unfold findF at h
  split at h
  · rename_i hst
    rw [Bool.and_eq_true] at hst
    have hok := grow_ok _ _ _ h
    have hp := p_of hst.2
    exact provesF_iff.2 ⟨hst.1, hst.2, flat_proof hok (PT.size_15 (by omega) hok)⟩
  · cases h
/-- what is proved follows -/
theorem proves_follows {p : Int} {s : List Cl} {ms : List (Int × Int)} {sp : List Sp3} {fi : Int} (h : provesF p s ms sp fi = true) : followsF p s ms = true := by
  obtain ⟨h1, h2, h3⟩ := provesF_iff.1 h
  exact followsF_iff.2 ⟨h1, h2, fun w hw hst => proof_sound h3 hw (clL_all.2 hst)⟩
/-- with a further claim behind the story it is a proof still -/
theorem proves_more {p : Int} {s r : List Cl} {ms : List (Int × Int)} {sp : List Sp3} {fi : Int} (h : provesF p s ms sp fi = true) (hr : storyOk p (s ++ r) = true) : provesF p (s ++ r) ms sp fi = true := by
  obtain ⟨h1, h2, h3⟩ := provesF_iff.1 h
  refine provesF_iff.2 ⟨hr, h2, ?_⟩
  rw [clL_append]
  exact proof_more h3
/-- from nothing just what always holds follows -/
theorem follows_nil {p : Int} {ms : List (Int × Int)} (h : termOk p ms = true) : followsF p [] ms = alwaysV p ms := by
  have hp := p_of h
  rw [Bool.eq_iff_iff, followsF_iff]
  unfold alwaysV
  rw [h, Bool.true_and, decide_eq_true_eq, storyOk_nil]
  constructor
  · rintro ⟨_, _, h3⟩ w hw; exact h3 w hw rfl
  · intro h3; exact ⟨by simpa [pOk] using hp, rfl, fun w hw _ => h3 w hw⟩
/-- with further claims what follows follows -/
theorem follows_more {p : Int} {s r : List Cl} {ms : List (Int × Int)} (h : followsF p s ms = true) (hr : storyOk p (s ++ r) = true) : followsF p (s ++ r) ms = true := by
  obtain ⟨_, h2, h3⟩ := followsF_iff.1 h
  refine followsF_iff.2 ⟨hr, h2, fun w hw hst => h3 w hw ?_⟩
  unfold storyT at hst ⊢
  rw [List.all_append, Bool.and_eq_true] at hst
  exact hst.1
theorem clash_iff {p : Int} {s : List Cl} (hs : storyOk p s = true) : clashV p s = true ↔ ∀ w, w < 2 ^ p.toNat → storyT p s w = false := by
  unfold clashV
  rw [hs, Bool.true_and, decide_eq_true_eq]
  have h : storyN p s = tabF (2 ^ p.toNat) (storyT p s) := rfl
  rw [h]
  constructor
  · intro h0 w hw
    have := congrArg (fun x => x.testBit w) h0
    rw [tabF_bit, decide_eq_true hw, Nat.zero_testBit] at this
    simpa using this
  · intro h0
    refine Nat.eq_of_testBit_eq fun w => ?_
    rw [tabF_bit, Nat.zero_testBit]
    by_cases hw : w < 2 ^ p.toNat
    · rw [h0 w hw]; simp
    · rw [decide_eq_false hw]; rfl
/-- from a clash all follows -/
theorem clash_follows {p : Int} {s : List Cl} {ms : List (Int × Int)} (hs : storyOk p s = true) (ht : termOk p ms = true) (h : clashV p s = true) : followsF p s ms = true :=
  followsF_iff.2 ⟨hs, ht, fun w hw hst => by rw [(clash_iff hs).1 h w hw] at hst; cases hst⟩
/-- a term and its opposite both follow exactly from a clash -/
theorem both_clash {p : Int} {s : List Cl} {ms : List (Int × Int)} (hs : storyOk p s = true) (ht : termOk p ms = true) (hn : termOk p (ms ++ [(2, 0)]) = true) :
    (followsF p s ms && followsF p s (ms ++ [(2, 0)])) = clashV p s := by
  rw [Bool.eq_iff_iff, Bool.and_eq_true]
  constructor
  · rintro ⟨h1, h2⟩
    refine (clash_iff hs).2 fun w hw => ?_
    cases hst : storyT p s w with
    | false => rfl
    | true =>
      have a1 := (followsF_iff.1 h1).2.2 w hw hst
      have a2 := (followsF_iff.1 h2).2.2 w hw hst
      have e : hfV p (ms ++ [(2, 0)]) w = !hfV p ms w := by
        obtain ⟨_, _, t, htt, rfl⟩ := termOk_iff.1 ht
        have e2 : t.post ++ [((2 : Int), (0 : Int))] = (Tm.un t).post := rfl
        unfold hfV
        have hu : (Tm.un t).ok p := htt
        rw [e2, tmOf_post htt, tmOf_post hu]; rfl
      rw [e, a1] at a2; cases a2
  · intro h; exact ⟨clash_follows hs ht h, clash_follows hs hn h⟩
end Go.Proofs.YtefmoljipbbmmaaDoor
/- Contracts of the reference's proofs by cases: what follows, the worlds that agree, closed cases. -/
namespace Go.Proofs.YtefmoljipbbmmaaDoor
open Go.RowKit Go.Joins
attribute [local irreducible] holds tabN tabV holdsV sameV followsV alwaysV matterV claimOk mayT mayV ctabV ctabN storyV storyOk storyN storyT ctermV ctermL followsF agreeN agreeB closeB
theorem shl_4 {n N : Nat} (h : n ≤ 4) (hN : N = 2 ^ n) : wrap64 (2 ^ n) = (N : Int) := by
  have h : n = 0 ∨ n = 1 ∨ n = 2 ∨ n = 3 ∨ n = 4 := by omega
  rw [hN]
  rcases h with rfl | rfl | rfl | rfl | rfl <;> decide +kernel
theorem shl_4k {n N : Nat} (h : n ≤ 4) (hN : N = 2 ^ n) : IntKind.i64.wrap (2 ^ n) = (N : Int) := by
  have h : n = 0 ∨ n = 1 ∨ n = 2 ∨ n = 3 ∨ n = 4 := by omega
  rw [hN]
  rcases h with rfl | rfl | rfl | rfl | rfl <;> decide +kernel
/-! ### the worlds that agree -/
def agK (kn : List Int) (W k : Nat) : Bool := decide (kn.getD k 0 < 0) || decide (kn.getD k 0 = bit11 W k)
def agF (kn : List Int) (W n : Nat) : Bool := (List.range n).all (agK kn W)
theorem agF_zero (kn : List Int) (W : Nat) : agF kn W 0 = true := rfl
theorem agF_succ (kn : List Int) (W n : Nat) : agF kn W (n + 1) = (agF kn W n && agK kn W n) := by unfold agF; rw [List.range_succ, List.all_append]; simp
theorem agF_all (kn : List Int) (W P : Nat) : agF kn W P = agreeB P kn W := by unfold agF agreeB agK; rfl
theorem bit_mod11 (X j : Nat) : ((X : Int) / 2 ^ j).tmod 2 = bit11 X j := by unfold bit11; exact tmod_two_val
theorem agF_neg {kn : List Int} {W n : Nat} (h : agF kn W n = true) (hz : kn.getD n 0 < 0) : agF kn W (n + 1) = true := by rw [agF_succ, h]; unfold agK; rw [decide_eq_true hz]; rfl
theorem agF_pos {kn : List Int} {W n : Nat} (h : agF kn W n = true) (hz : ¬ kn.getD n 0 < 0) : agF kn W (n + 1) = (kn.getD n 0 == bit11 W n) := by
  rw [agF_succ, h]; unfold agK; rw [decide_eq_false hz, Bool.eq_iff_iff]; simp
theorem agF_no {kn : List Int} {W n : Nat} (h : agF kn W n = false) : agF kn W (n + 1) = false := by rw [agF_succ, h]; rfl
set_option maxRecDepth 100000 in
set_option maxHeartbeats 4000000 in
theorem specAgree (P : Nat) (h1 : 1 ≤ P) (h4 : P ≤ 4) (kn : List Int) (hl : kn.length = P) (B : Nat) (v : Value) (w : World) (hr : RdInts w B v kn) :
    Calls Tryd.prog 69 #[.int .i64 (P : Int), v] w fun e w' => e = .returned (.int .i64 (agreeN (P : Int) kn)) ∧ ∃ nd, w.drewN nd = w' := by
  obtain ⟨ao, cap, rfl, hle, hm, hc0⟩ := hr
  have hc := Lib.hid hc0; clear hc0
  unfold maxLen at hm
  obtain ⟨N, hN⟩ : ∃ N, N = 2 ^ P := ⟨_, rfl⟩
  have hN16 : N ≤ 16 := by rw [hN]; exact two16 h4
  have hsh := shl_4 h4 hN
  have hshk := shl_4k h4 hN
  have hmn : min P 64 = P := by omega
  have Hd : Hid (agreeN (P : Int) kn = tabF N (agreeB P kn)) := by unfold Hid agreeN; rw [Int.toNat_natCast, hN]
  have Hall := Lib.hid (fun W => agF_all kn W P)
  generalize agreeN (P : Int) kn = D at *
  generalize agreeB P kn = f at *
  rw [hl] at hle hc ⊢
  clear hl hN
  go_enter Tryd.func69, Tryd.ntmps69
  go_wp2
  go_loopw [5, 6, 7, 8] (fun t' i _ _ wr => ∃ j : Nat, j ≤ N ∧ i = .int .i64 j ∧ t' = .int .i64 (tabF j f) ∧ ∃ nd, w.drewN nd = wr) (fun _ i _ _ _ => N - (intOf i).toNat)
  case atStart => exact ⟨0, Nat.zero_le _, rfl, rfl, 0, rfl⟩
  case round =>
    obtain ⟨j, hj, rfl, rfl, nd, rfl⟩ := hrel
    by_cases hlt : j < N
    · have Hs := Lib.hid (tabF_succ j f)
      have hor := or_shlN (t := tabF j f) (x := j) (N := N) (Nat.lt_of_lt_of_le (tabF_lt j _) (Nat.pow_le_pow_right (by decide) hj)) hN16 hlt
      rw [Nat.min_eq_left (by omega)] at hor
      have hmj : min j 64 = j := by omega
      generalize tabF j f = T at *
      have H0 := Lib.hid (agF_zero kn j)
      go_wp2
      go_loopw [7, 8] (fun a i wr => ∃ k : Nat, k ≤ P ∧ i = .int .i64 k ∧ a = .bool (agF kn j k) ∧ ∃ nd, w.drewN nd = wr) (fun _ i _ => P - (intOf i).toNat)
      case atStart => exact ⟨0, Nat.zero_le _, rfl, by rw [H0.out], nd, rfl⟩
      case round =>
        obtain ⟨k, hk, rfl, rfl, ne, rfl⟩ := hrel
        by_cases hkl : k < P
        · obtain ⟨b, off, rfl, hb, hcell⟩ := hc.out k hkl
          have hmk : min k 64 = k := by omega
          have hsk := bit_mod11 j k
          cases hA : agF kn j k with
          | false =>
            have Hn := Lib.hid (agF_no hA)
            clear hA
            go_upto_region 9 with fail
            first
              | go_quiet (fail)
              | go_region_with (fail)
              | fail
            all_goals go_wp2
            all_goals go_roundw
            case rel => exact ⟨k + 1, by omega, by go_num, by rw [Hn.out], by first | exact ⟨_, rfl⟩ | exact ⟨_, (World.drewN_drewN _ _ _).symm⟩⟩
            case measure => simp [intOf]; omega
          | true =>
            by_cases hz : kn.getD k 0 < 0
            · have Hn := Lib.hid (agF_neg hA hz)
              clear hA
              generalize kn.getD k 0 = z at *
              go_upto_region 9 with fail
              first
                | go_quiet (fail)
                | go_region_with (fail)
                | fail
              all_goals go_wp2
              all_goals go_roundw
              case rel => exact ⟨k + 1, by omega, by go_num, by rw [Hn.out], by first | exact ⟨_, rfl⟩ | exact ⟨_, (World.drewN_drewN _ _ _).symm⟩⟩
              case measure => simp [intOf]; omega
            · have Hn := Lib.hid (agF_pos hA hz)
              clear hA
              generalize kn.getD k 0 = z at *
              generalize bit11 j k = y at *
              go_upto_region 9 with fail
              first
                | go_quiet (fail)
                | go_region_with (fail)
                | fail
              all_goals go_wp2
              all_goals go_roundw
              case rel => exact ⟨k + 1, by omega, by go_num, by rw [Hn.out], by first | exact ⟨_, rfl⟩ | exact ⟨_, (World.drewN_drewN _ _ _).symm⟩⟩
              case measure => simp [intOf]; omega
        · obtain rfl : k = P := by omega
          rw [Hall.out j]
          cases hh : f j with
          | true =>
            rw [hh, if_pos rfl] at Hs
            have Hs' : Hid (tabF (j + 1) f = T ||| 1 <<< j) := Hs
            clear Hs hh
            go_wp2
            go_roundw
            case rel => exact ⟨j + 1, by omega, by go_num, by rw [Hs'.out, ← hor], _, rfl⟩
            case measure => simp [intOf]; omega
          | false =>
            rw [hh, if_neg (by decide)] at Hs
            have Hs' : Hid (tabF (j + 1) f = T) := Hs
            clear Hs hh
            go_wp2
            go_roundw
            case rel => exact ⟨j + 1, by omega, by go_num, by rw [Hs'.out], _, rfl⟩
            case measure => simp [intOf]; omega
    · obtain rfl : j = N := by omega
      go_wp2
      go_ret
      exact ⟨by rw [Hd.out]; rfl, _, rfl⟩
end Go.Proofs.YtefmoljipbbmmaaDoor
/- Contracts of the reference's proofs by cases: closed cases. -/
namespace Go.Proofs.YtefmoljipbbmmaaDoor
open Go.RowKit Go.Joins
attribute [local irreducible] holds tabN tabV holdsV sameV followsV alwaysV matterV claimOk mayT mayV ctabV ctabN storyV storyOk storyN storyT ctermV ctermL followsF agreeN agreeB closeB
theorem below_drewC (B : Nat) (w : World) (k : Nat) : Below B w (w.drewN k) := ⟨rfl, rfl, rfl, Nat.le_refl _, fun _ _ => rfl⟩
theorem specL1In11 (n lo hi : Int) (b : Bool) (hb : Hid (b = decide (lo ≤ n ∧ n ≤ hi))) (w : World) :
    Calls Tryd.prog 56 #[.int .i64 n, .int .i64 lo, .int .i64 hi] w fun e w' => e = .returned (.bool b) ∧ w = w' := by
  rw [hb.out]; exact specIn n lo hi w
theorem map_getD (qs : List QC) (j : Nat) (hj : j < qs.length) : (qs.map (·.2)).getD j (0, []) = (qs.getD j qc0).2 := by simp [List.getD, hj]
set_option maxRecDepth 100000 in
set_option maxHeartbeats 800000 in
theorem specCloses (P : Nat) (qs : List QC) (ms : List (Int × Int)) (hok : storyOk (P : Int) (qs.map (·.2)) = true) (ht : termOk (P : Int) ms = true) (kn : List Int) (hl : kn.length = P) (g : Int) (hg : -2 - (qs.length : Int) ≤ g) (hgn : g < 0)
    (B : Nat) (v u kv : Value) (w : World) (hr : RdStory w B v qs) (hr' : RdMarks w B u ms) (hk : RdInts w B kv kn) (hB : B ≤ w.heap.size) :
    Calls Tryd.prog 57 #[.int .i64 (P : Int), v, u, .int .i64 g, kv] w fun e w' => e = .returned (.bool (closeB P (hfV P ms) (clL P (qs.map (·.2))) g kn)) ∧ Below w.heap.size w w' := by
  obtain ⟨h1, h4⟩ := p_of ht
  have Hag := Lib.hid (fun w hr => specAgree P (by omega) (by omega) kn hl B kv w hr)
  have Hk := Lib.hid hk; clear hk
  have Hr' := Lib.hid hr'; clear hr'
  have hal := agreeN_lt (kn := kn) h4
  obtain ⟨wo, rfl⟩ : ∃ wo : World, wo = w := ⟨_, rfl⟩
  by_cases hgg : g = -1
  · subst hgg
    have Hc : Hid (closeB P (hfV P ms) (clL P (qs.map (·.2))) (-1) kn = (((agreeN P kn ^^^ (agreeN P kn &&& tabN P ms) : Nat) : Int) == 0)) := by
      have := close_goal_tab (p := (P : Int)) (s := qs.map (·.2)) (ms := ms) (kn := kn)
      rwa [Int.toNat_natCast] at this
    have hnot := bits_andNot_nat (agreeN (P : Int) kn) (tabN (P : Int) ms) (by omega) (by have := tabN_lt ht; omega)
    have Ht := Lib.hid (fun w hr hB => specTableN (P : Int) ms ht B u w hr hB)
    clear hl hok ht h1 h4 hal hr
    generalize closeB P (hfV P ms) (clL P (qs.map (·.2))) (-1) kn = R at *
    generalize agreeN (P : Int) kn ^^^ (agreeN (P : Int) kn &&& tabN (P : Int) ms) = D at *
    generalize agreeN (P : Int) kn = A at *
    generalize tabN (P : Int) ms = TT at *
    go_enter Tryd.func57, Tryd.ntmps57
    go_wp2_with fail
    refine (Hag.out _ Hk.out).mono ?_
    rintro e w2 ⟨rfl, nd, rfl⟩
    have Hr2 : Hid (RdMarks (wo.drewN nd) B u ms) := Hr'.out
    go_wp2_with fail
    refine (Ht.out _ Hr2.out hB).mono ?_
    rintro e w3 ⟨rfl, hb3⟩
    have Hb3 := Lib.hid ((below_drewC wo.heap.size wo nd).trans hb3); clear hb3
    go_wp2
    go_ret
    exact ⟨by rw [Hc.out]; rfl, Hb3.out⟩
  · have hlq := (storyOk_iff.1 hok).2.2
    rw [List.length_map] at hlq
    obtain ⟨j, hj⟩ : ∃ j : Nat, g = -2 - (j : Int) := ⟨(-2 - g).toNat, by omega⟩
    have hw1 : wrap64 (-2 - g) = (j : Int) := by unfold wrap64; omega
    have hjq : Hid (j ≤ qs.length) := by unfold Hid; omega
    have Hgg : Hid (g = -2 - (j : Int)) := hj
    clear hj hg hgn
    have Hs := Lib.hid hr
    obtain ⟨ao, cap, rfl, hle, hm, _, hc0⟩ := hr
    have hc := Lib.hid hc0; clear hc0
    unfold maxLen at hm
    have hjl : j ≤ qs.length := by have := hjq.out; exact this
    clear hjq
    by_cases hlt : j < qs.length
    · have Hc : Hid (closeB P (hfV P ms) (clL P (qs.map (·.2))) g kn = (((agreeN P kn &&& ctabN P (qs.getD j qc0).2 : Nat) : Int) == 0)) := by
        have := close_claim_tab (p := (P : Int)) (s := qs.map (·.2)) (ms := ms) (kn := kn) (j := j) (by simpa using hlt)
        rw [← Hgg.out] at this
        rwa [Int.toNat_natCast, map_getD qs j hlt] at this
      obtain ⟨b, off, rfl, hb, hc1, hc2⟩ := hc.out j hlt
      have Hm := Lib.hid (Hs.out.get hlt).1
      have hcok : claimOk (P : Int) (qs.getD j qc0).2 = true := by
        have e : qs.getD j qc0 = qs[j] := by simp [List.getD, hlt]
        rw [e]; exact (storyOk_iff.1 hok).1 _ (List.mem_map.2 ⟨_, List.getElem_mem hlt, rfl⟩)
      have hct := ctabN_lt (c := (qs.getD j qc0).2) h1 h4
      have hand := bits_and_nat (agreeN (P : Int) kn) (ctabN (P : Int) (qs.getD j qc0).2) (by omega) (by omega)
      have hin : Hid (true = decide ((0 : Int) ≤ (j : Int) ∧ (j : Int) ≤ (qs.length : Int) - 1)) := by unfold Hid; rw [eq_comm, decide_eq_true_eq]; omega
      generalize closeB P (hfV P ms) (clL P (qs.map (·.2))) g kn = R at *
      clear Hgg
      generalize qs.getD j qc0 = q at *
      obtain ⟨cu, k, cms⟩ := q
      have Hct := Lib.hid (fun w hr hB => specClaimTab (p := (P : Int)) hcok B cu w hr hB)
      dsimp only at hc1 hc2
      have Hm' : Hid (RdMarks wo B cu cms) := Hm.out
      clear hl hok ht h1 h4 hal hcok hct Hm
      generalize agreeN (P : Int) kn &&& ctabN (P : Int) (k, cms) = D at *
      generalize agreeN (P : Int) kn = A at *
      generalize ctabN (P : Int) (k, cms) = TT at *
      generalize hn : qs.length = n at *
      clear hn
      go_enter Tryd.func57, Tryd.ntmps57
      go_wp2_with fail
      refine (Hag.out _ Hk.out).mono ?_
      rintro e w2 ⟨rfl, nd, rfl⟩
      have Hr2 : Hid (RdMarks (wo.drewN nd) B cu cms) := Hm'.out
      have hc1' : (wo.drewN nd).cell? ⟨b, off + j * 2, none⟩ = some (.int .i64 k) := hc1
      have hc2' : (wo.drewN nd).cell? ⟨b, off + j * 2 + 1, none⟩ = some cu := hc2
      clear hc1 hc2
      go_wp2_with fail
      refine (specL1In11 _ _ _ true hin _).mono ?_
      rintro e w3 ⟨rfl, rfl⟩
      go_wp2_with fail
      refine (Hct.out _ Hr2.out hB).mono ?_
      rintro e w3 ⟨rfl, hb3⟩
      have Hb3 := Lib.hid ((below_drewC wo.heap.size wo nd).trans hb3); clear hb3
      go_wp2
      go_ret
      exact ⟨by rw [Hc.out]; rfl, Hb3.out⟩
    · obtain rfl : j = qs.length := by omega
      have Hc : Hid (closeB P (hfV P ms) (clL P (qs.map (·.2))) g kn = false) := by
        have := close_past (p := (P : Int)) (s := qs.map (·.2)) (ms := ms) (kn := kn) (g := g) hgg (by rw [List.length_map]; have := Hgg.out; omega)
        rwa [Int.toNat_natCast] at this
      have hin : Hid (false = decide ((0 : Int) ≤ (qs.length : Int) ∧ (qs.length : Int) ≤ (qs.length : Int) - 1)) := by unfold Hid; rw [eq_comm, decide_eq_false_iff_not]; omega
      generalize closeB P (hfV P ms) (clL P (qs.map (·.2))) g kn = R at *
      clear Hgg hl hok ht h1 h4 hal
      generalize agreeN (P : Int) kn = A at *
      generalize hn : qs.length = n at *
      clear hn
      go_enter Tryd.func57, Tryd.ntmps57
      go_wp2_with fail
      refine (Hag.out _ Hk.out).mono ?_
      rintro e w2 ⟨rfl, nd, rfl⟩
      go_wp2_with fail
      refine (specL1In11 _ _ _ false (by first | exact hin | (unfold Hid; rw [eq_comm, decide_eq_false_iff_not]; omega)) _).mono ?_
      rintro e w3 ⟨rfl, rfl⟩
      go_wp2
      go_ret
      exact ⟨by rw [Hc.out]; rfl, below_drewC _ _ _⟩
end Go.Proofs.YtefmoljipbbmmaaDoor
/- Contracts of the reference's proofs by cases: what is known at first. -/
namespace Go.Proofs.YtefmoljipbbmmaaDoor
open Go.RowKit Go.Joins
attribute [local irreducible] holds tabN tabV holdsV sameV followsV alwaysV matterV claimOk mayT mayV ctabV ctabN storyV storyOk storyN storyT ctermV ctermL followsF agreeN agreeB closeB
theorem ints_neg_succ (k : Nat) : ints (List.replicate (k + 1) (-1)) = ints (List.replicate k (-1)) ++ [.int .i64 (-1)] := by
  rw [List.replicate_succ', show ints (List.replicate k (-1) ++ [-1]) = ints (List.replicate k (-1)) ++ ints [-1] by simp [ints]]; rfl
set_option maxRecDepth 100000 in
set_option maxHeartbeats 1000000 in
theorem specNothing (P : Nat) (h4 : P ≤ 4) (w : World) :
    Calls Tryd.prog 41 #[.int .i64 (P : Int)] w fun e w' => ∃ v, e = .returned v ∧ w'.ownsRow w.heap.size 3 1 v P (ints (noneK P)) ∧ Below w.heap.size w w' := by
  obtain ⟨i0, hi, hz0, hz1, hz2⟩ := info_parts Tryd.info3
  have Hi := Lib.hid hi; clear hi
  have Hz0 := Lib.hid hz0; clear hz0
  have Hz1 := Lib.hid hz1; clear hz1
  have Hz2 := Lib.hid hz2; clear hz2
  have Hn : Hid (noneK P = List.replicate P (-1)) := rfl
  generalize noneK P = K at *
  obtain ⟨wo, rfl⟩ : ∃ wo : World, wo = w := ⟨_, rfl⟩
  go_enter Tryd.func41, Tryd.ntmps41
  go_wp2
  go_loopw [3, 4] (fun v i wr => ∃ k : Nat, k ≤ P ∧ i = .int .i64 k ∧ wr.ownsRow wo.heap.size 3 1 v k (ints (List.replicate k (-1))) ∧ Below wo.heap.size wo wr) (fun _ i _ => P - (intOf i).toNat)
  case atStart => exact ⟨0, Nat.zero_le _, rfl, World.ownsRow_made _ _ 0 (Nat.le_refl _) (by unfold maxLen; omega) rfl, (Below.refl _ _).alloc (Nat.le_refl _) _⟩
  case round =>
    obtain ⟨k, hk, rfl, hown, hbel⟩ := hrel
    by_cases hlt : k < P
    · go_wp2_with (at_builtin; refine wpList_append_own _ rfl _ _ 80 rfl wo.heap.size 3 i0 (.int .i64 0) 1 8 Tryd.underlying80 Hi.out Hz0.out Hz1.out Hz2.out rfl (by decide) _ _ _ rfl (hown.alloc _) ⟨_, 0, none⟩ 1 1 [.int .i64 (-1)] rfl rfl ?_ ?_ ?_ ?_ ?_ ?_)
      · exact (cell_one_new _ _ _)
      · simp [Value.oneCell']
      · unfold maxLen; omega
      · omega
      · have := hbel.size; simp; omega
      intro v' w1 hown' hgrow _
      have Hb1 := Lib.hid ((hbel.alloc hbel.size _).grown hgrow (by simp; have := hbel.size; omega) (fun k hk => (hown.lt k hk).1))
      have Ho1 : Hid (w1.ownsRow wo.heap.size 3 1 v' (k + 1) (ints (List.replicate (k + 1) (-1)))) := by
        rw [ints_neg_succ]; exact hown'
      clear hown' hgrow hown hbel
      go_wp2
      go_roundw
      case rel => exact ⟨k + 1, by omega, by go_num, Ho1.out, Hb1.out⟩
      case measure => simp [intOf]; omega
    · obtain rfl : k = P := by omega
      have Hown := Lib.hid hown
      have Hbel := Lib.hid hbel
      clear hown hbel
      go_wp2
      go_ret
      rw [Hn.out]
      exact ⟨_, rfl, Hown.out, Hbel.out⟩
end Go.Proofs.YtefmoljipbbmmaaDoor

/- Texts of a proof, merged: Mirror, TruthM, TruthT, ClaimM, OddM. -/
import Derived.Test.YthiabicleedleaaMerged6
import Derived.Test.YthiabicleedleaaMerged4
/- Contracts of the mirrored term, in the program and in the reference model. -/
namespace Go.Proofs.Ythiabicleedleaa
open Go.RowKit Go.Joins

/-- one mark mirrored -/
def mirM (p : Int) (m : Int × Int) : List (Int × Int) := if m.1 = 0 then [m, (2, 0)] else if m.1 = 1 then [(1, p + 1 - m.2), (2, 0)] else [m]
def mirN (p : Int) (ms : List (Int × Int)) : List (Int × Int) := ms.flatMap (mirM p)
theorem mirN_take (p : Int) (ms : List (Int × Int)) (k : Nat) (h : k < ms.length) : mirN p (ms.take (k + 1)) = mirN p (ms.take k) ++ mirM p (ms.getD k (0, 0)) := by
  rw [take_snoc (0, 0) ms k h]; simp [mirN]
theorem mirM_len (p : Int) (m : Int × Int) : (mirM p m).length ≤ 2 := by
  unfold mirM; repeat' split
  all_goals simp
theorem mirN_len (p : Int) (ms : List (Int × Int)) : (mirN p ms).length ≤ 2 * ms.length := by
  induction ms with
  | nil => simp [mirN]
  | cons m r ih =>
    have := mirM_len p m
    simp only [mirN, List.flatMap_cons, List.length_append, List.length_cons] at ih ⊢
    omega
/-- what the mirrored term is: its marks, and whether it is told -/
def mirOk (p : Int) (ms : List (Int × Int)) : Bool := termOk p ms && decide ((mirN p ms).length ≤ 15)
def mirV (p : Int) (ms : List (Int × Int)) : List (Int × Int) := if mirOk p ms = true then mirN p ms else []
theorem mirV_len (p : Int) (ms : List (Int × Int)) : (mirV p ms).length ≤ 15 := by
  unfold mirV mirOk
  split
  · rename_i h
    rw [Bool.and_eq_true, decide_eq_true_eq] at h
    exact h.2
  · simp
theorem mir_I64 {p : Int} {ms : List (Int × Int)} (h : termOk p ms = true) : I64s (mirN p ms) := by
  intro m hm
  obtain ⟨x, hx, hmx⟩ := List.mem_flatMap.1 hm
  have hk := termOk_mkOk h x hx
  have hp := (termOk_iff.1 h).1
  unfold mkOk at hk
  rw [decide_eq_true_eq] at hk
  unfold mirM at hmx
  split at hmx
  · simp at hmx
    rcases hmx with rfl | rfl
    · exact ⟨I64_small (by omega) (by omega), I64_small (by omega) (by omega)⟩
    · exact ⟨I64_small (by omega) (by omega), I64_small (by omega) (by omega)⟩
  · split at hmx
    · simp at hmx
      rcases hmx with rfl | rfl
      · exact ⟨I64_small (by omega) (by omega), I64_small (by omega) (by omega)⟩
      · exact ⟨I64_small (by omega) (by omega), I64_small (by omega) (by omega)⟩
    · simp at hmx
      subst hmx
      exact ⟨I64_small (by omega) (by omega), I64_small (by omega) (by omega)⟩
theorem mirV_I64 (p : Int) (ms : List (Int × Int)) : I64s (mirV p ms) := by
  unfold mirV mirOk
  split
  · rename_i h
    rw [Bool.and_eq_true] at h
    exact mir_I64 h.1
  · intro m hm; simp at hm
theorem mirN_nil (p : Int) : mirN p [] = [] := rfl
theorem mirM0 (p x : Int) : mirM p (0, x) = [(0, x), (2, 0)] := rfl
theorem mirM1 (p x : Int) : mirM p (1, x) = [(1, p + 1 - x), (2, 0)] := rfl
theorem mirMe {p k x : Int} (h : 2 ≤ k) : mirM p (k, x) = [(k, x)] := by unfold mirM; rw [if_neg (by simp; omega), if_neg (by simp; omega)]
theorem taken_pos {k : Int} (h : 2 ≤ k ∧ k ≤ 5) : (taken k == 0) = false := by
  rw [beq_eq_false_iff_ne]; unfold taken; repeat' split
  all_goals omega
theorem taken_zero {k : Int} (h : k = 0 ∨ k = 1) : (taken k == 0) = true := by
  rcases h with rfl | rfl <;> rfl
attribute [local irreducible] mirN

theorem own_cat1 {w : World} {base L : Nat} {v : Value} {xs : List (Int × Int)} {m : Int × Int} (hl : xs.length = L) (h : w.ownsRow base TM 2 v (L + 1) (mcells xs ++ mcells [m])) : w.ownsRow base TM 2 v (xs ++ [m]).length (mcells (xs ++ [m])) := by
  rw [mcells_append, List.length_append, hl]; exact h
theorem own_cat2 {w : World} {base L : Nat} {v : Value} {xs : List (Int × Int)} {m m' : Int × Int} (hl : xs.length = L) (h : w.ownsRow base TM 2 v (L + 1 + 1) (mcells xs ++ mcells [m] ++ mcells [m'])) : w.ownsRow base TM 2 v (xs ++ [m, m']).length (mcells (xs ++ [m, m'])) := by
  have e : xs ++ [m, m'] = xs ++ [m] ++ [m'] := by simp
  rw [e, mcells_append, mcells_append, List.length_append, List.length_append, hl]; exact h
theorem own_cat3 {w : World} {base L : Nat} {v : Value} {xs : List (Int × Int)} {m m' : Int × Int} (hl : xs.length = L) (h : w.ownsRow base TM 2 v (L + 2) (mcells xs ++ mcells [m, m'])) : w.ownsRow base TM 2 v (xs ++ [m, m']).length (mcells (xs ++ [m, m'])) := by
  rw [mcells_append, List.length_append, hl]; exact h
/-- what a mirrored term's call hands back: its marks, in memory of the call's own -/
def MirOut (p : Int) (ms : List (Int × Int)) (w : World) (e : Ending) (w' : World) : Prop :=
  ∃ v, e = .returned (.tuple #[v, .bool (mirOk p ms)]) ∧ w'.ownsRow w.heap.size TM 2 v (mirV p ms).length (mcells (mirV p ms)) ∧ Below w.heap.size w w'
theorem mir_no {p : Int} {ms : List (Int × Int)} (h : termOk p ms = false) : mirOk p ms = false ∧ mirV p ms = [] := by
  have : mirOk p ms = false := by simp [mirOk, h]
  exact ⟨this, by simp [mirV, this]⟩
theorem mir_long {p : Int} {ms : List (Int × Int)} (h : ¬ (mirN p ms).length ≤ 15) : mirOk p ms = false ∧ mirV p ms = [] := by
  have : mirOk p ms = false := by simp [mirOk]; omega
  exact ⟨this, by simp [mirV, this]⟩
theorem mir_yes {p : Int} {ms : List (Int × Int)} (h : termOk p ms = true) (hl : (mirN p ms).length ≤ 15) : mirOk p ms = true ∧ mirV p ms = mirN p ms := by
  have : mirOk p ms = true := by simp [mirOk, h, hl]
  exact ⟨this, by simp [mirV, this]⟩

end Go.Proofs.Ythiabicleedleaa
/- What holds: mirrored terms, opposite worlds, who matters: the mathematics, without code. -/
namespace Go.Proofs.Ythiabicleedleaa
open Go.RowKit

def mirT (p : Int) : Tm → Tm
  | .leaf k x => if k = 0 then .un (.leaf 0 x) else .un (.leaf 1 (p + 1 - x))
  | .un t => .un (mirT p t)
  | .bin k a b => .bin k (mirT p a) (mirT p b)
theorem mirT_ok {p : Int} : ∀ (t : Tm), t.ok p → (mirT p t).ok p
  | .leaf k x, h => by
    simp only [Tm.ok] at h
    rcases h with ⟨rfl, h0, h1⟩ | ⟨rfl, h0, h1⟩
    · rw [mirT, if_pos rfl]; simp only [Tm.ok]; left; exact ⟨trivial, h0, h1⟩
    · rw [mirT, if_neg (by decide)]; simp only [Tm.ok]; right; refine ⟨trivial, ?_, ?_⟩ <;> omega
  | .un t, h => by rw [mirT]; simp only [Tm.ok] at h ⊢; exact mirT_ok t h
  | .bin k a b, h => by rw [mirT]; simp only [Tm.ok] at h ⊢; exact ⟨h.1, h.2.1, mirT_ok a h.2.2.1, mirT_ok b h.2.2.2⟩
theorem mirT_post {p : Int} : ∀ (t : Tm), t.ok p → (mirT p t).post = mirN p t.post
  | .leaf k x, h => by
    simp only [Tm.ok] at h
    rcases h with ⟨rfl, h0, h1⟩ | ⟨rfl, h0, h1⟩
    · rw [mirT, if_pos rfl]; rfl
    · rw [mirT, if_neg (by decide)]; rfl
  | .un t, h => by
    rw [mirT]
    simp only [Tm.post, mirN, List.flatMap_append]
    rw [mirT_post t (by simpa only [Tm.ok] using h)]
    rfl
  | .bin k a b, h => by
    simp only [Tm.ok] at h
    rw [mirT]
    simp only [Tm.post, mirN, List.flatMap_append]
    rw [mirT_post a h.2.2.1, mirT_post b h.2.2.2]
    rw [List.flatMap_cons, mirMe (by omega)]
    rfl
theorem mirT_term {p : Int} {ms : List (Int × Int)} (h : mirOk p ms = true) : termOk p ms = true ∧ termOk p (mirV p ms) = true ∧ tmOf p (mirV p ms) = mirT p (tmOf p ms) := by
  have h1 := h
  unfold mirOk at h
  rw [Bool.and_eq_true, decide_eq_true_eq] at h
  obtain ⟨hok, hl⟩ := h
  have e : mirV p ms = mirN p ms := by simp [mirV, h1]
  obtain ⟨hp, _, t, ht, rfl⟩ := termOk_iff.1 hok
  rw [e, ← mirT_post t ht] at *
  exact ⟨hok, termOk_iff.2 ⟨hp, hl, _, mirT_ok t ht, rfl⟩, by rw [tmOf_post (mirT_ok t ht), tmOf_post ht]⟩
theorem turn_bits : ∀ p : Fin 5, 1 ≤ p.val → ∀ w : Fin 16, w.val < 2 ^ p.val → (∀ x : Fin 4, x.val < p.val → (2 ^ p.val - 1 - w.val).testBit x.val = !w.val.testBit x.val) ∧ heads (2 ^ p.val - 1 - w.val) + heads w.val = p.val := by decide +kernel
theorem flip_bits : ∀ p : Fin 5, 1 ≤ p.val → ∀ w : Fin 16, w.val < 2 ^ p.val → ∀ k : Fin 4, k.val < p.val → (2 ^ p.val - 1 - w.val) ^^^ (1 <<< k.val) = 2 ^ p.val - 1 - (w.val ^^^ (1 <<< k.val)) ∧ w.val ^^^ (1 <<< k.val) < 2 ^ p.val ∧ (w.val ^^^ (1 <<< k.val)) ^^^ (1 <<< k.val) = w.val := by decide +kernel
theorem less_bits : ∀ w : Fin 16, w.val ≠ 0 → ∃ k : Fin 4, w.val ^^^ (1 <<< k.val) < w.val ∧ 2 ^ k.val ≤ w.val := by decide +kernel
theorem two16 {p : Nat} (h : p ≤ 4) : 2 ^ p ≤ 16 := by
  have h2 : 2 ^ p ≤ 2 ^ 4 := Nat.pow_le_pow_right (by decide) h
  omega
/-- in the opposite world the mirrored term holds just if the term did -/
theorem holds_mir {p : Nat} (h1 : 1 ≤ p) (h4 : p ≤ 4) {w : Nat} (hw : w < 2 ^ p) : ∀ t : Tm, t.ok p → holds (2 ^ p - 1 - w) (mirT p t) = holds w t
  | .leaf k x, h => by
    have h16 := two16 h4
    obtain ⟨hb, hh⟩ := turn_bits ⟨p, by omega⟩ h1 ⟨w, by omega⟩ hw
    simp only [Tm.ok] at h
    rcases h with ⟨rfl, h0, hx⟩ | ⟨rfl, h0, hx⟩
    · rw [mirT, if_pos rfl, holds_un, holds, holds, if_pos rfl, if_pos rfl]
      have := hb ⟨x.toNat, by omega⟩ (by show x.toNat < p; omega)
      dsimp only at this
      rw [this]; simp
    · rw [mirT, if_neg (by decide), holds_un, holds, holds, if_neg (by decide), if_neg (by decide)]
      dsimp only at hh
      rw [← decide_not, decide_eq_decide]
      omega
  | .un t, h => by
    rw [mirT, holds_un, holds_un, holds_mir h1 h4 hw t (by simpa only [Tm.ok] using h)]
  | .bin k a b, h => by
    simp only [Tm.ok] at h
    rw [mirT, holds, holds, holds_mir h1 h4 hw a h.2.2.1, holds_mir h1 h4 hw b h.2.2.2]
theorem ok_of {p : Int} {ms : List (Int × Int)} (h : termOk p ms = true) : (tmOf p ms).ok p := by
  obtain ⟨_, _, t, ht, rfl⟩ := termOk_iff.1 h
  rw [tmOf_post ht]; exact ht
/-- the opposite of a world -/
def opw (p x : Int) : Int := 2 ^ p.toNat - 1 - x
theorem opw_ok {p x : Int} (h : wOk p x = true) : wOk p (opw p x) = true := by
  obtain ⟨h1, h4, h0, hx⟩ := wOk_iff.1 h
  refine wOk_iff.2 ⟨h1, h4, ?_, ?_⟩ <;> unfold opw <;> omega
theorem holdsV_mir {p : Int} {ms : List (Int × Int)} (h : mirOk p ms = true) {x : Int} (hx : wOk p x = true) : holdsV p (mirV p ms) (opw p x) = holdsV p ms x := by
  obtain ⟨h1, h2, h3⟩ := mirT_term h
  obtain ⟨hp1, hp4, hx0, hxl⟩ := wOk_iff.1 hx
  obtain ⟨P, rfl⟩ := Int.eq_ofNat_of_zero_le (show 0 ≤ p by omega)
  obtain ⟨X, rfl⟩ := Int.eq_ofNat_of_zero_le hx0
  have hX : X < 2 ^ P := by have := hxl; rw [Int.toNat_natCast] at this; exact_mod_cast this
  have e : (opw P X).toNat = 2 ^ P - 1 - X := by
    unfold opw; rw [Int.toNat_natCast]
    have : ((2 ^ P : Nat) : Int) = 2 ^ P := by simp
    omega
  unfold holdsV
  rw [h1, h2, hx, opw_ok hx, h3, e, Int.toNat_natCast, holds_mir (by omega) (by omega) hX _ (ok_of h1)]
theorem tab_bit {T N i : Nat} : (turned T N N).testBit i = decide (∃ j, j < N ∧ T.testBit j = true ∧ N - 1 - j = i) := by
  unfold turned
  rw [tabOf_bit, decide_eq_decide]
  simp only [List.mem_map, wl_mem]
  constructor
  · rintro ⟨j, ⟨h1, h2⟩, h3⟩; exact ⟨j, h1, h2, h3⟩
  · rintro ⟨j, h1, h2, h3⟩; exact ⟨j, ⟨h1, h2⟩, h3⟩
theorem tabF_turned (N : Nat) (f g : Nat → Bool) (h : ∀ w, w < N → g (N - 1 - w) = f w) : tabF N g = turned (tabF N f) N N := by
  by_cases hN : N = 0
  · subst hN; rfl
  refine bit_ext (tabF_lt N g) (turned_lt (Nat.le_refl N) (by omega)) (fun i hi => ?_)
  rw [tabF_bit, tab_bit, decide_eq_true hi, Bool.true_and, Bool.eq_iff_iff, decide_eq_true_eq]
  constructor
  · intro hg
    refine ⟨N - 1 - i, by omega, ?_, by omega⟩
    rw [tabF_bit, decide_eq_true (by omega), Bool.true_and, ← h (N - 1 - i) (by omega)]
    rw [show N - 1 - (N - 1 - i) = i by omega]; exact hg
  · rintro ⟨j, hj, hb, rfl⟩
    rw [tabF_bit, decide_eq_true hj, Bool.true_and] at hb
    rw [h j hj]; exact hb
theorem tabV_ok {p : Int} {ms : List (Int × Int)} (h : termOk p ms = true) : tOk p (tabV p ms) = true := by
  obtain ⟨h1, h4⟩ := p_of h
  rw [tabV_yes h]
  have := tabF_lt (2 ^ p.toNat) (fun w => holds w (tmOf p ms))
  refine tOk_iff.2 ⟨h1, h4, by omega, ?_⟩
  exact_mod_cast this
theorem tabV_mir {p : Int} {ms : List (Int × Int)} (h : mirOk p ms = true) : tabV p (mirV p ms) = opt p (tabV p ms) := by
  obtain ⟨h1, h2, h3⟩ := mirT_term h
  have hok := tabV_ok h1
  obtain ⟨hp1, hp4⟩ := p_of h1
  obtain ⟨P, rfl⟩ := Int.eq_ofNat_of_zero_le (show 0 ≤ p by omega)
  rw [tabV_yes h1] at hok ⊢
  rw [tabV_yes h2, opt_yes hok, h3]
  congr 1
  rw [Int.toNat_natCast]
  exact tabF_turned _ _ _ (fun w hw => holds_mir (by omega) (by omega) hw _ (ok_of h1))
theorem tab_holds {p : Int} {ms : List (Int × Int)} (h : termOk p ms = true) {w : Nat} (hw : w < 2 ^ p.toNat) : (tabV p ms).toNat.testBit w = holdsV p ms w := by
  have hx : wOk p w = true := by
    obtain ⟨h1, h4⟩ := p_of h
    exact wOk_iff.2 ⟨h1, h4, by omega, by exact_mod_cast hw⟩
  unfold holdsV
  rw [tabV_yes h, Int.toNat_natCast, tabF_bit, decide_eq_true hw, h, hx, Int.toNat_natCast]
  simp
/-! ### who matters -/
theorem matter_mir {p : Int} {ms : List (Int × Int)} (h : mirOk p ms = true) : matterV p (mirV p ms) = matterV p ms := by
  obtain ⟨h1, h2, h3⟩ := mirT_term h
  obtain ⟨hp1, hp4⟩ := p_of h1
  obtain ⟨P, rfl⟩ := Int.eq_ofNat_of_zero_le (show 0 ≤ p by omega)
  have h16 := two16 (p := P) (by omega)
  unfold matterV
  rw [h1, h2, h3]
  simp only [if_true]
  congr 1
  unfold matterN
  rw [tabF_ext]
  intro k hk
  rw [Int.toNat_natCast] at hk
  unfold matters
  rw [decide_eq_decide, Int.toNat_natCast]
  have key : ∀ w, w < 2 ^ P → (holds (2 ^ P - 1 - w) (mirT P (tmOf P ms)) = holds w (tmOf P ms)) ∧ (2 ^ P - 1 - w) ^^^ (1 <<< k) = 2 ^ P - 1 - (w ^^^ (1 <<< k)) ∧ w ^^^ (1 <<< k) < 2 ^ P := fun w hw => by
    obtain ⟨a, b, _⟩ := flip_bits ⟨P, by omega⟩ (by show 1 ≤ P; omega) ⟨w, by omega⟩ hw ⟨k, by omega⟩ hk
    exact ⟨holds_mir (by omega) (by omega) hw _ (ok_of h1), a, b⟩
  constructor
  · rintro ⟨w, hw, hne⟩
    refine ⟨2 ^ P - 1 - w, by omega, ?_⟩
    obtain ⟨a, b, c⟩ := key (2 ^ P - 1 - w) (by omega)
    obtain ⟨a2, b2, c2⟩ := key ((2 ^ P - 1 - w) ^^^ (1 <<< k)) c
    rw [← a, ← a2, show 2 ^ P - 1 - (2 ^ P - 1 - w) = w by omega, ← b, show 2 ^ P - 1 - (2 ^ P - 1 - w) = w by omega]
    exact hne
  · rintro ⟨w, hw, hne⟩
    refine ⟨2 ^ P - 1 - w, by omega, ?_⟩
    obtain ⟨a, b, c⟩ := key w hw
    obtain ⟨a2, _, _⟩ := key (w ^^^ (1 <<< k)) c
    rw [a, b, a2]; exact hne
theorem same_all {P : Nat} (h4 : P ≤ 4) (f : Nat → Bool) (h : ∀ k, k < P → ∀ w, w < 2 ^ P → f w = f (w ^^^ 1 <<< k)) : ∀ w, w < 2 ^ P → f w = f 0 := by
  have h16 := two16 h4
  intro w
  induction w using Nat.strongRecOn with
  | ind w ih =>
    intro hw
    by_cases h0 : w = 0
    · rw [h0]
    · obtain ⟨k, hk, hk2⟩ := less_bits ⟨w, by omega⟩ h0
      dsimp only at hk hk2
      have hkP : k.val < P := by
        by_cases hc : k.val < P
        · exact hc
        · have : 2 ^ P ≤ 2 ^ k.val := Nat.pow_le_pow_right (by decide) (by omega)
          omega
      rw [h k.val hkP w hw]
      exact ih _ hk (by omega)
theorem always_matter {p : Int} {ms : List (Int × Int)} (h : termOk p ms = true) : alwaysV p ms = (decide (matterV p ms = 0) && holdsV p ms 0) := by
  obtain ⟨hp1, hp4⟩ := p_of h
  have hx : wOk p 0 = true := wOk_iff.2 ⟨hp1, hp4, by omega, by
    have h2 : 0 < 2 ^ p.toNat := Nat.two_pow_pos _
    exact_mod_cast h2⟩
  obtain ⟨P, rfl⟩ := Int.eq_ofNat_of_zero_le (show 0 ≤ p by omega)
  have hpos := Nat.two_pow_pos P
  unfold alwaysV holdsV matterV
  rw [h, hx]
  simp only [if_true, Bool.true_and]
  rw [Bool.eq_iff_iff, Bool.and_eq_true, decide_eq_true_eq, decide_eq_true_eq, Int.toNat_natCast]
  generalize tmOf (P : Int) ms = t
  constructor
  · intro hall
    refine ⟨?_, hall 0 hpos⟩
    have : matterN P t = 0 := by
      refine Nat.eq_of_testBit_eq fun k => ?_
      unfold matterN
      rw [tabF_bit, Nat.zero_testBit, Int.toNat_natCast]
      by_cases hk : k < P
      · rw [decide_eq_true hk, Bool.true_and]
        unfold matters
        rw [decide_eq_false_iff_not, Int.toNat_natCast]
        rintro ⟨w, hw, hne⟩
        have h16 := two16 (p := P) (by omega)
        obtain ⟨_, b, _⟩ := flip_bits ⟨P, by omega⟩ (by show 1 ≤ P; omega) ⟨w, by omega⟩ hw ⟨k, by omega⟩ hk
        exact hne (by rw [hall w hw, hall _ b])
      · rw [decide_eq_false hk, Bool.false_and]
    omega
  · rintro ⟨hm, h0⟩ w hw
    have hm' : matterN P t = 0 := by omega
    rw [same_all (P := P) (by omega) (fun w => holds w t) (fun k hk w hw => ?_) w hw]
    · exact h0
    · have hb := congrArg (fun x => x.testBit k) hm'
      unfold matterN at hb
      rw [tabF_bit, Nat.zero_testBit, Int.toNat_natCast, decide_eq_true hk, Bool.true_and] at hb
      unfold matters at hb
      rw [decide_eq_false_iff_not, Int.toNat_natCast] at hb
      by_cases e : holds w t = holds (w ^^^ 1 <<< k) t
      · exact e
      · exact absurd ⟨w, hw, e⟩ hb
/-! ### without counts just who is read matters -/
theorem holds_apart {p : Int} {k : Nat} (w : Nat) : ∀ t : Tm, t.ok p → (∀ m ∈ t.post, m.1 ≠ 1 ∧ (m.1 = 0 → m.2.toNat ≠ k)) → holds (w ^^^ 1 <<< k) t = holds w t
  | .leaf c x, ht, h => by
    have h1 := h (c, x) (by simp [Tm.post])
    dsimp only at h1
    simp only [Tm.ok] at ht
    rw [holds, holds]
    have hc : c = 0 := by omega
    rw [if_pos hc, if_pos hc, Nat.testBit_xor, Nat.one_shiftLeft, Nat.testBit_two_pow]
    have hx := h1.2 hc
    have : decide (k = x.toNat) = false := by simp; omega
    rw [this]; simp
  | .un t, ht, h => by
    rw [holds_un, holds_un, holds_apart w t (by simpa only [Tm.ok] using ht) (fun m hm => h m (by simp [Tm.post, hm]))]
  | .bin c a b, ht, h => by
    simp only [Tm.ok] at ht
    rw [holds, holds, holds_apart w a ht.2.2.1 (fun m hm => h m (by simp [Tm.post, hm])), holds_apart w b ht.2.2.2 (fun m hm => h m (by simp [Tm.post, hm]))]
theorem readN_bits (k : Nat) : ∀ (ms : List (Int × Int)) (n : Nat), (∀ m ∈ ms, m.1 = 0 → m.2.toNat = k → (ms.foldl rdStep n).testBit k = true) ∧ (n.testBit k = true → (ms.foldl rdStep n).testBit k = true)
  | [], n => ⟨fun m hm => by simp at hm, fun h => h⟩
  | (c, x) :: r, n => by
    obtain ⟨h1, h2⟩ := readN_bits k r (rdStep n (c, x))
    rw [List.foldl_cons]
    constructor
    · intro m hm hm0 hmk
      rcases List.mem_cons.1 hm with rfl | hm
      · refine h2 ?_
        dsimp only at hm0 hmk
        unfold rdStep
        dsimp only
        rw [if_pos hm0, hmk, Nat.testBit_or, Nat.one_shiftLeft, Nat.testBit_two_pow]
        simp
      · exact h1 m hm hm0 hmk
    · intro hn
      refine h2 ?_
      unfold rdStep
      dsimp only
      split
      · rw [Nat.testBit_or, hn]; rfl
      · exact hn
theorem matter_read {p : Int} {ms : List (Int × Int)} (h : termOk p ms = true) (hc : ∀ m ∈ ms, m.1 ≠ 1) (k : Nat) (hk : (matterN p (tmOf p ms)).testBit k = true) : (readN ms).testBit k = true := by
  by_cases hr : (readN ms).testBit k = true
  · exact hr
  · exfalso
    have ht := ok_of h
    have hpost : (tmOf p ms).post = ms := by
      obtain ⟨_, _, t, ht2, rfl⟩ := termOk_iff.1 h
      rw [tmOf_post ht2]
    unfold matterN at hk
    rw [tabF_bit, Bool.and_eq_true] at hk
    have h2 := hk.2
    unfold matters at h2
    rw [decide_eq_true_eq] at h2
    obtain ⟨w, _, hne⟩ := h2
    refine hne (holds_apart w _ ht (fun m hm => ?_)).symm
    rw [hpost] at hm
    exact ⟨hc m hm, fun h0 hk2 => hr ((readN_bits k ms 0).1 m hm h0 hk2)⟩
end Go.Proofs.Ythiabicleedleaa
/- Contracts of the reference's truth of terms: HoldsIn, TableOf, SameOk, FollowsOk, AlwaysOk, MatterIn. -/
namespace Go.Proofs.Ythiabicleedleaa
open Go.RowKit
theorem bits_andNot_nat (a b : Nat) (ha : a < 9223372036854775808) (hb : b < 9223372036854775808) :
    bits .andNot .i64 (a : Int) (b : Int) = ((a ^^^ (a &&& b) : Nat) : Int) := by
  have hx : a ^^^ (a &&& b) < 2 ^ 63 := Nat.xor_lt_two_pow (by omega) (Nat.and_lt_two_pow _ (by omega))
  have hy : (BitVec.ofInt 64 (a : Int) &&& ~~~ BitVec.ofInt 64 (b : Int)).toNat = a ^^^ (a &&& b) := by
    refine Nat.eq_of_testBit_eq fun i => ?_
    rw [BitVec.testBit_toNat, BitVec.getLsbD_and, BitVec.getLsbD_not, ← BitVec.testBit_toNat, ← BitVec.testBit_toNat, ofInt_nat a ha, ofInt_nat b hb, Nat.testBit_xor, Nat.testBit_and]
    by_cases hi : i < 64
    · simp [hi]
      cases a.testBit i <;> cases b.testBit i <;> rfl
    · have : a.testBit i = false := Nat.testBit_lt_two_pow (Nat.lt_of_lt_of_le (show a < 2 ^ 63 by omega) (Nat.pow_le_pow_right (by decide) (by omega)))
      simp [this]
  show IntKind.i64.wrap ((BitVec.ofInt 64 (a : Int) &&& ~~~ BitVec.ofInt 64 (b : Int)).toNat : Int) = _
  rw [hy, IntKind.wrap_i64]
  omega
theorem less_zero {A B : Nat} : A ^^^ (A &&& B) = 0 ↔ ∀ j, A.testBit j = true → B.testBit j = true := by
  constructor
  · intro h j hj
    have := congrArg (fun x => x.testBit j) h
    simp only [Nat.testBit_xor, Nat.testBit_and, Nat.zero_testBit, hj] at this
    cases hb : B.testBit j with
    | true => rfl
    | false => rw [hb] at this; simp at this
  · intro h
    refine Nat.eq_of_testBit_eq fun j => ?_
    rw [Nat.testBit_xor, Nat.testBit_and, Nat.zero_testBit]
    cases ha : A.testBit j with
    | true => rw [h j ha]; rfl
    | false => rfl
/-- the table of a term for p people, as a number -/
def tabN (p : Int) (ms : List (Int × Int)) : Nat := tabF (2 ^ p.toNat) (fun w => holds w (tmOf p ms))
theorem tabN_lt {p : Int} {ms : List (Int × Int)} (h : termOk p ms = true) : tabN p ms < 65536 := by
  obtain ⟨h1, h4⟩ := p_of h
  have h2 := tabF_lt (2 ^ p.toNat) (fun w => holds w (tmOf p ms))
  have h3 : 2 ^ p.toNat ≤ 16 := two16 (by omega)
  have h5 : 2 ^ (2 ^ p.toNat) ≤ 2 ^ 16 := Nat.pow_le_pow_right (by decide) h3
  unfold tabN
  omega
theorem tabV_N {p : Int} {ms : List (Int × Int)} (h : termOk p ms = true) : tabV p ms = (tabN p ms : Int) := tabV_yes h
theorem sameV_N {p : Int} {a b : List (Int × Int)} (ha : termOk p a = true) (hb : termOk p b = true) : sameV p a b = ((tabN p a : Int) == (tabN p b : Int)) := by
  unfold sameV
  rw [ha, hb, tabV_N ha, tabV_N hb]
  rw [Bool.eq_iff_iff]; simp
theorem followsV_N {p : Int} {a b : List (Int × Int)} (ha : termOk p a = true) (hb : termOk p b = true) : followsV p a b = (((tabN p a ^^^ (tabN p a &&& tabN p b) : Nat) : Int) == 0) := by
  unfold followsV
  rw [ha, hb, Bool.eq_iff_iff]
  simp only [Bool.true_and, decide_eq_true_eq, beq_iff_eq]
  rw [show (((tabN p a ^^^ (tabN p a &&& tabN p b) : Nat) : Int) = 0) ↔ (tabN p a ^^^ (tabN p a &&& tabN p b) = 0) by omega, less_zero]
  unfold tabN
  constructor
  · intro h j hj
    rw [tabF_bit, Bool.and_eq_true, decide_eq_true_eq] at hj
    rw [tabF_bit, decide_eq_true hj.1, Bool.true_and]
    exact h j hj.1 hj.2
  · intro h w hw hh
    have := h w (by rw [tabF_bit, decide_eq_true hw, Bool.true_and]; exact hh)
    rw [tabF_bit, Bool.and_eq_true] at this
    exact this.2
theorem tabF_full (N : Nat) (f : Nat → Bool) : tabF N f = 2 ^ N - 1 ↔ ∀ w, w < N → f w = true := by
  constructor
  · intro h w hw
    have := congrArg (fun x => x.testBit w) h
    rw [tabF_bit, Nat.testBit_two_pow_sub_one, decide_eq_true hw, Bool.true_and] at this
    exact this
  · intro h
    refine Nat.eq_of_testBit_eq fun w => ?_
    rw [tabF_bit, Nat.testBit_two_pow_sub_one]
    by_cases hw : w < N
    · rw [decide_eq_true hw, h w hw]; rfl
    · rw [decide_eq_false hw]; rfl
theorem alwaysV_N {p : Int} {ms : List (Int × Int)} (h : termOk p ms = true) (F : Int) (hF : F = ((2 ^ (2 ^ p.toNat) - 1 : Nat) : Int)) : alwaysV p ms = ((tabN p ms : Int) == F) := by
  unfold alwaysV
  rw [h, hF, Bool.eq_iff_iff]
  simp only [Bool.true_and, decide_eq_true_eq, beq_iff_eq]
  rw [← tabF_full]
  unfold tabN
  omega
theorem holdsV_no {p : Int} {ms : List (Int × Int)} {x : Int} (h : termOk p ms = false) : holdsV p ms x = false := by simp [holdsV, h]
theorem holdsV_no2 {p : Int} {ms : List (Int × Int)} {x : Int} (h : wOk p x = false) : holdsV p ms x = false := by simp [holdsV, h]
theorem holdsV_at {p x : Int} {t : Tm} (h : termOk p t.post = true) (ht : t.ok p) (hx : wOk p x = true) : holdsV p t.post x = holds x.toNat t := by simp [holdsV, h, hx, tmOf_post ht]
theorem sameV_no {p : Int} {a b : List (Int × Int)} (h : termOk p a = false ∨ termOk p b = false) : sameV p a b = false := by rcases h with h | h <;> simp [sameV, h]
theorem followsV_no {p : Int} {a b : List (Int × Int)} (h : termOk p a = false ∨ termOk p b = false) : followsV p a b = false := by rcases h with h | h <;> simp [followsV, h]
theorem alwaysV_no {p : Int} {a : List (Int × Int)} (h : termOk p a = false) : alwaysV p a = false := by simp [alwaysV, h]
theorem matterV_no {p : Int} {a : List (Int × Int)} (h : termOk p a = false) : matterV p a = -1 := by simp [matterV, h]
theorem matterV_yes {p : Int} {a : List (Int × Int)} (h : termOk p a = true) : matterV p a = (matterN p (tmOf p a) : Int) := by simp [matterV, h]
attribute [local irreducible] holds tabN tabV holdsV sameV followsV alwaysV matterV
end Go.Proofs.Ythiabicleedleaa
/- Claims and stories: the mathematics, without code. -/
namespace Go.Proofs.Ythiabicleedleaa
open Go.RowKit
/-- a claim: who makes it, and the marks of what it says -/
abbrev Cl := Int × List (Int × Int)
def claimOk (p : Int) (c : Cl) : Bool := decide (0 ≤ c.1) && (decide (c.1 < p) && (termOk p c.2 && decide (c.2.length ≤ 13)))
def mayT (p : Int) (c : Cl) (W : Nat) : Bool := W.testBit c.1.toNat == holds W (tmOf p c.2)
def mayV (p : Int) (c : Cl) (x : Int) : Bool := claimOk p c && (wOk p x && mayT p c x.toNat)
def ctermL (c : Cl) : List (Int × Int) := (0, c.1) :: c.2 ++ [(5, 0)]
def ctermV (p : Int) (c : Cl) : List (Int × Int) := if claimOk p c then ctermL c else []
def ctabN (p : Int) (c : Cl) : Nat := tabF (2 ^ p.toNat) (mayT p c)
def ctabV (p : Int) (c : Cl) : Int := if claimOk p c = true then (ctabN p c : Int) else -1
def denyL (c : Cl) : Cl := (c.1, c.2 ++ [(2, 0)])
def denyOk (p : Int) (c : Cl) : Bool := claimOk p c && claimOk p (denyL c)
def denyV (p : Int) (c : Cl) : Cl := if denyOk p c then denyL c else (0, [])
def storyOk (p : Int) (s : List Cl) : Bool := s.all (claimOk p) && (pOk p && decide (s.length ≤ 6))
def storyT (p : Int) (s : List Cl) (W : Nat) : Bool := s.all fun c => mayT p c W
def storyN (p : Int) (s : List Cl) : Nat := tabF (2 ^ p.toNat) (storyT p s)
def storyV (p : Int) (s : List Cl) : Int := if storyOk p s = true then (storyN p s : Int) else -1
theorem claimOk_iff {p : Int} {c : Cl} : claimOk p c = true ↔ 0 ≤ c.1 ∧ c.1 < p ∧ termOk p c.2 = true ∧ c.2.length ≤ 13 := by
  simp [claimOk]
theorem claimOk_no_who {p : Int} {c : Cl} (h : ¬ (0 ≤ c.1 ∧ c.1 < p)) : claimOk p c = false := by
  cases hc : claimOk p c with
  | false => rfl
  | true => obtain ⟨h1, h2, _⟩ := claimOk_iff.1 hc; exact absurd ⟨h1, h2⟩ h
theorem claimOk_no_term {p : Int} {c : Cl} (h : termOk p c.2 = false) : claimOk p c = false := by simp [claimOk, h]
theorem claimOk_at {p : Int} {c : Cl} (h1 : 0 ≤ c.1) (h2 : c.1 < p) (h : termOk p c.2 = true) : claimOk p c = decide (c.2.length ≤ 13) := by simp [claimOk, h, h1, h2]
theorem p_of_claim {p : Int} {c : Cl} (h : claimOk p c = true) : 1 ≤ p ∧ p ≤ 4 := p_of (claimOk_iff.1 h).2.2.1
theorem ctabV_yes {p : Int} {c : Cl} (h : claimOk p c = true) : ctabV p c = (ctabN p c : Int) := by simp [ctabV, h]
theorem ctabV_no {p : Int} {c : Cl} (h : claimOk p c = false) : ctabV p c = -1 := by simp [ctabV, h]
theorem storyV_yes {p : Int} {s : List Cl} (h : storyOk p s = true) : storyV p s = (storyN p s : Int) := by simp [storyV, h]
theorem storyV_no {p : Int} {s : List Cl} (h : storyOk p s = false) : storyV p s = -1 := by simp [storyV, h]
theorem mayV_no {p : Int} {c : Cl} {x : Int} (h : claimOk p c = false) : mayV p c x = false := by simp [mayV, h]
theorem mayV_no2 {p : Int} {c : Cl} {x : Int} (h : wOk p x = false) : mayV p c x = false := by simp [mayV, h]
theorem mayV_yes {p : Int} {c : Cl} {x : Int} (h : claimOk p c = true) (hx : wOk p x = true) : mayV p c x = mayT p c x.toNat := by simp [mayV, h, hx]
theorem ctabN_lt {p : Int} {c : Cl} (h1 : 1 ≤ p) (h4 : p ≤ 4) : ctabN p c < 65536 := by
  have h2 := tabF_lt (2 ^ p.toNat) (mayT p c)
  have h3 : 2 ^ p.toNat ≤ 16 := two16 (by omega)
  have h5 : 2 ^ (2 ^ p.toNat) ≤ 2 ^ 16 := Nat.pow_le_pow_right (by decide) h3
  unfold ctabN
  omega
/-! ### the term of a claim -/
theorem ctermL_post {p : Int} {c : Cl} (h : claimOk p c = true) : ctermL c = (Tm.bin 5 (.leaf 0 c.1) (tmOf p c.2)).post ∧ (Tm.bin 5 (.leaf 0 c.1) (tmOf p c.2)).ok p := by
  obtain ⟨h1, h2, h3, h4⟩ := claimOk_iff.1 h
  have ho := ok_of h3
  obtain ⟨hp, _, t, ht, hpost⟩ := termOk_iff.1 h3
  have e : (tmOf p c.2).post = c.2 := by rw [hpost, tmOf_post ht]
  refine ⟨?_, ?_⟩
  · unfold ctermL
    rw [show (Tm.bin 5 (.leaf 0 c.1) (tmOf p c.2)).post = [(0, c.1)] ++ (tmOf p c.2).post ++ [(5, 0)] from rfl, e]; rfl
  · simp only [Tm.ok]
    exact ⟨by decide, by decide, .inl ⟨by trivial, h1, h2⟩, ho⟩
theorem ctermL_ok {p : Int} {c : Cl} (h : claimOk p c = true) : termOk p (ctermL c) = true ∧ tmOf p (ctermL c) = .bin 5 (.leaf 0 c.1) (tmOf p c.2) ∧ (ctermL c).length = c.2.length + 2 := by
  obtain ⟨e, ho⟩ := ctermL_post h
  obtain ⟨h1, h2, h3, h4⟩ := claimOk_iff.1 h
  have hl : (ctermL c).length = c.2.length + 2 := by simp [ctermL]
  refine ⟨?_, ?_, hl⟩
  · rw [termOk_iff]
    exact ⟨p_of h3, by omega, _, ho, e⟩
  · rw [e, tmOf_post ho]
theorem holds_cterm {p : Int} {c : Cl} (h : claimOk p c = true) (W : Nat) : holds W (tmOf p (ctermL c)) = mayT p c W := by
  rw [(ctermL_ok h).2.1, holds_same, holds, if_pos rfl]; rfl
theorem holdsV_cterm {p : Int} {c : Cl} (h : claimOk p c = true) (x : Int) : holdsV p (ctermL c) x = mayV p c x := by
  unfold holdsV mayV
  rw [(ctermL_ok h).1, h, holds_cterm h]; simp
theorem tabV_cterm {p : Int} {c : Cl} (h : claimOk p c = true) : tabV p (ctermL c) = ctabV p c := by
  rw [tabV_yes (ctermL_ok h).1, ctabV_yes h]
  unfold ctabN
  rw [show (fun w => holds w (tmOf p (ctermL c))) = mayT p c from funext fun W => holds_cterm h W]
/-! ### denied claims -/
theorem denyL_may {p : Int} {c : Cl} (h : termOk p c.2 = true) (W : Nat) : mayT p (denyL c) W = !mayT p c W := by
  unfold mayT denyL
  dsimp only
  rw [tmOf_un h, holds_un]
  cases W.testBit c.1.toNat <;> cases holds W (tmOf p c.2) <;> rfl
theorem denyL_ok {p : Int} {c : Cl} (h : claimOk p c = true) : claimOk p (denyL c) = decide (c.2.length ≤ 12) := by
  obtain ⟨h1, h2, h3, h4⟩ := claimOk_iff.1 h
  have ht : termOk p (denyL c).2 = true := by
    unfold denyL; dsimp only
    rw [termOk_un h3]; simp; omega
  rw [claimOk_at (c := denyL c) h1 h2 ht, decide_eq_decide]
  simp [denyL]
theorem denyOk_at {p : Int} {c : Cl} (h : claimOk p c = true) : denyOk p c = decide (c.2.length ≤ 12) := by unfold denyOk; rw [h, denyL_ok h]; rfl
theorem denyOk_both {p : Int} {c : Cl} (h : denyOk p c = true) : claimOk p c = true ∧ claimOk p (denyL c) = true := by simpa [denyOk] using h
theorem mayV_deny {p : Int} {c : Cl} (h : denyOk p c = true) {x : Int} (hx : wOk p x = true) : mayV p (denyL c) x = !mayV p c x := by
  obtain ⟨h1, h2⟩ := denyOk_both h
  rw [mayV_yes h1 hx, mayV_yes h2 hx, denyL_may (claimOk_iff.1 h1).2.2.1]
theorem tabF_not (N : Nat) (f : Nat → Bool) : ((tabF N fun w => !f w : Nat) : Int) = 2 ^ N - 1 - (tabF N f : Int) := by
  have h := tabF_lt N f
  have e : tabF N (fun w => !f w) = 2 ^ N - 1 - tabF N f := by
    refine Nat.eq_of_testBit_eq fun j => ?_
    rw [show 2 ^ N - 1 - tabF N f = 2 ^ N - (tabF N f + 1) by omega, tabF_bit, Nat.testBit_two_pow_sub_succ h, tabF_bit]
    by_cases hj : j < N
    · simp [hj]
    · simp [hj]
  rw [e]
  have : ((2 ^ N : Nat) : Int) = 2 ^ N := by simp
  omega
theorem ctabV_deny {p : Int} {c : Cl} (h : denyOk p c = true) : ctabV p (denyL c) = 2 ^ (2 ^ p.toNat) - 1 - ctabV p c := by
  obtain ⟨h1, h2⟩ := denyOk_both h
  rw [ctabV_yes h1, ctabV_yes h2]
  unfold ctabN
  rw [← tabF_not]
  rw [show (mayT p (denyL c)) = fun W => !mayT p c W from funext fun W => denyL_may (claimOk_iff.1 h1).2.2.1 W]
theorem ctabV_deny2 {p : Int} {c : Cl} (h : denyOk p c = true) (h' : denyOk p (denyL c) = true) : ctabV p (denyL (denyL c)) = ctabV p c := by
  rw [ctabV_deny h', ctabV_deny h]; omega
/-! ### mirrored claims -/
theorem opw_bit {p : Int} {x k : Int} (hx : wOk p x = true) (hk : 0 ≤ k) (hkp : k < p) : (opw p x).toNat.testBit k.toNat = !x.toNat.testBit k.toNat := by
  obtain ⟨hp1, hp4, hx0, hxl⟩ := wOk_iff.1 hx
  obtain ⟨P, rfl⟩ := Int.eq_ofNat_of_zero_le (show 0 ≤ p by omega)
  obtain ⟨X, rfl⟩ := Int.eq_ofNat_of_zero_le hx0
  obtain ⟨K, rfl⟩ := Int.eq_ofNat_of_zero_le hk
  have hX : X < 2 ^ P := by have := hxl; rw [Int.toNat_natCast] at this; exact_mod_cast this
  have e : (opw P X).toNat = 2 ^ P - 1 - X := by
    unfold opw; rw [Int.toNat_natCast]
    have : ((2 ^ P : Nat) : Int) = 2 ^ P := by simp
    omega
  have h16 := two16 (p := P) (by omega)
  rw [e, Int.toNat_natCast, Int.toNat_natCast]
  exact (turn_bits ⟨P, by omega⟩ (by show 1 ≤ P; omega) ⟨X, by omega⟩ hX).1 ⟨K, by omega⟩ (by show K < P; omega)
theorem mayV_mir {p : Int} {c : Cl} (h : claimOk p c = true) (hm : mirOk p c.2 = true) (h' : claimOk p (c.1, mirV p c.2) = true) {x : Int} (hx : wOk p x = true) : mayV p (c.1, mirV p c.2) (opw p x) = !mayV p c x := by
  rw [mayV_yes h hx, mayV_yes h' (opw_ok hx)]
  obtain ⟨h1, h2, h3, _⟩ := claimOk_iff.1 h
  have hh := holdsV_mir hm hx
  unfold holdsV at hh
  rw [(mirT_term hm).2.1, h3, hx, opw_ok hx] at hh
  simp only [Bool.true_and] at hh
  unfold mayT
  dsimp only
  rw [hh, opw_bit hx h1 h2]
  cases x.toNat.testBit c.1.toNat <;> cases holds x.toNat (tmOf p c.2) <;> rfl
/-! ### stories -/
theorem tabF_and (N : Nat) (f g : Nat → Bool) : tabF N f &&& tabF N g = tabF N fun w => f w && g w := by
  refine Nat.eq_of_testBit_eq fun j => ?_
  rw [Nat.testBit_and, tabF_bit, tabF_bit, tabF_bit]
  cases decide (j < N) <;> simp
theorem storyOk_nil (p : Int) : storyOk p [] = pOk p := by simp [storyOk]
theorem storyOk_iff {p : Int} {s : List Cl} : storyOk p s = true ↔ (∀ c ∈ s, claimOk p c = true) ∧ pOk p = true ∧ s.length ≤ 6 := by simp [storyOk]
theorem storyOk_sub {p : Int} {s r : List Cl} (h : storyOk p s = true) (hs : r.length ≤ s.length) (hm : ∀ c ∈ r, c ∈ s) : storyOk p r = true := by
  obtain ⟨h1, h2, h3⟩ := storyOk_iff.1 h
  exact storyOk_iff.2 ⟨fun c hc => h1 c (hm c hc), h2, by omega⟩
theorem storyN_nil (p : Int) : storyN p [] = 2 ^ (2 ^ p.toNat) - 1 := by
  unfold storyN
  rw [tabF_full]
  intro w _
  rfl
theorem storyT_snoc (p : Int) (s : List Cl) (c : Cl) (W : Nat) : storyT p (s ++ [c]) W = (storyT p s W && mayT p c W) := by simp [storyT]
theorem storyN_snoc (p : Int) (s : List Cl) (c : Cl) : storyN p (s ++ [c]) = storyN p s &&& ctabN p c := by
  unfold storyN ctabN
  rw [tabF_and]
  congr 1
  funext W
  exact storyT_snoc p s c W
theorem storyN_ext {p : Int} {s r : List Cl} (h : ∀ c, c ∈ s ↔ c ∈ r) : storyN p s = storyN p r := by
  unfold storyN
  congr 1
  funext W
  unfold storyT
  rw [Bool.eq_iff_iff, List.all_eq_true, List.all_eq_true]
  exact ⟨fun hs c hc => hs c ((h c).2 hc), fun hr c hc => hr c ((h c).1 hc)⟩
theorem storyN_lt {p : Int} {s : List Cl} (h1 : 1 ≤ p) (h4 : p ≤ 4) : storyN p s < 65536 := by
  have h2 := tabF_lt (2 ^ p.toNat) (storyT p s)
  have h3 : 2 ^ p.toNat ≤ 16 := two16 (by omega)
  have h5 : 2 ^ (2 ^ p.toNat) ≤ 2 ^ 16 := Nat.pow_le_pow_right (by decide) h3
  unfold storyN
  omega
/-- two claims by one person -/
theorem two_claims {p : Int} {a b : List (Int × Int)} (ha : claimOk p (0, a) = true) (hb : claimOk p (0, b) = true) (_hs : termOk p (a ++ b ++ [(5, 0)]) = true) : (storyN p [(0, a), (0, b)] : Nat) = ctabN p (0, a) &&& tabN p (a ++ b ++ [(5, 0)]) := by
  unfold storyN ctabN tabN
  rw [tabF_and]
  congr 1
  funext W
  rw [tmOf_bin (by omega) (claimOk_iff.1 ha).2.2.1 (claimOk_iff.1 hb).2.2.1, holds_same]
  unfold storyT mayT
  simp only [List.all_cons, List.all_nil, Bool.and_true]
  cases W.testBit (Int.toNat 0) <;> cases holds W (tmOf p a) <;> cases holds W (tmOf p b) <;> rfl
/-- to be of the same kind -/
theorem own_kind {p k l : Int} (h : claimOk p (k, [(0, k), (0, l), (5, 0)]) = true) (hl : 0 ≤ l ∧ l < p) : ctabV p (k, [(0, k), (0, l), (5, 0)]) = tabV p [(0, l)] := by
  obtain ⟨h1, h2, h3, _⟩ := claimOk_iff.1 h
  dsimp only at h1 h2
  have hp := p_of h3
  have ok0 : ∀ z : Int, 0 ≤ z → z < p → (Tm.leaf 0 z).ok p := fun z h0 hz => by simp only [Tm.ok]; exact .inl ⟨by trivial, h0, hz⟩
  have hk : tmOf p [(0, k), (0, l), (5, 0)] = .bin 5 (.leaf 0 k) (.leaf 0 l) := tmOf_post (t := .bin 5 (.leaf 0 k) (.leaf 0 l)) (by simp only [Tm.ok]; exact ⟨by decide, by decide, .inl ⟨by trivial, h1, h2⟩, .inl ⟨by trivial, hl.1, hl.2⟩⟩)
  have hl2 : tmOf p [(0, l)] = .leaf 0 l := tmOf_post (t := .leaf 0 l) (ok0 l hl.1 hl.2)
  have htl : termOk p [(0, l)] = true := termOk_iff.2 ⟨hp, by simp, .leaf 0 l, ok0 l hl.1 hl.2, rfl⟩
  rw [ctabV_yes h, tabV_yes htl]
  unfold ctabN
  congr 2
  funext W
  unfold mayT
  dsimp only
  rw [hk, hl2, holds_same, holds, holds, if_pos rfl, if_pos rfl]
  cases W.testBit k.toNat <;> cases W.testBit l.toNat <;> rfl
/-! ### mirrored claims and stories -/
theorem mirror_tab {p : Int} {c : Cl} (h : claimOk p c = true) (hm : mirOk p c.2 = true) (h' : claimOk p (c.1, mirV p c.2) = true) : opt p (ctabV p (c.1, mirV p c.2)) = ((tabF (2 ^ p.toNat) fun W => !mayT p c W : Nat) : Int) := by
  obtain ⟨hp1, hp4⟩ := p_of_claim h
  obtain ⟨P, rfl⟩ := Int.eq_ofNat_of_zero_le (show 0 ≤ p by omega)
  have hlt := tabF_lt (2 ^ P) (mayT (P : Int) (c.1, mirV P c.2))
  have htok : tOk (P : Int) (ctabN (P : Int) (c.1, mirV P c.2)) = true := by
    refine tOk_iff.2 ⟨hp1, hp4, by omega, ?_⟩
    unfold ctabN
    rw [Int.toNat_natCast]
    exact_mod_cast hlt
  rw [ctabV_yes h', opt_yes htok]
  congr 1
  unfold ctabN
  rw [Int.toNat_natCast]
  refine (tabF_turned _ _ _ (fun w hw => ?_)).symm
  have hx : wOk (P : Int) w = true := wOk_iff.2 ⟨hp1, hp4, by omega, by rw [Int.toNat_natCast]; exact_mod_cast hw⟩
  have hh := mayV_mir h hm h' hx
  have hpos := Nat.two_pow_pos P
  have e : opw (P : Int) w = ((2 ^ P - 1 - w : Nat) : Int) := by
    unfold opw
    rw [Int.toNat_natCast]
    have : ((2 ^ P : Nat) : Int) = 2 ^ P := by simp
    omega
  rw [mayV_yes h hx, mayV_yes h' (opw_ok hx), e, Int.toNat_natCast, Int.toNat_natCast] at hh
  have hx2 : wOk (P : Int) ((2 ^ P - 1 - w : Nat) : Int) = true := by rw [← e]; exact opw_ok hx
  have hw' : 2 ^ P - 1 - w < 2 ^ P := by omega
  have hh2 := mayV_mir h hm h' hx2
  have e2 : opw (P : Int) ((2 ^ P - 1 - w : Nat) : Int) = (w : Int) := by
    unfold opw
    rw [Int.toNat_natCast]
    have : ((2 ^ P : Nat) : Int) = 2 ^ P := by simp
    omega
  rw [mayV_yes h hx2, mayV_yes h' (opw_ok hx2), e2, Int.toNat_natCast, Int.toNat_natCast] at hh2
  rw [hh2]
theorem mirror_story {p : Int} {c : Cl} (h : claimOk p c = true) (hm : mirOk p c.2 = true) (h' : claimOk p (c.1, mirV p c.2) = true) :
    ∃ n m : Nat, ctabV p c = (n : Int) ∧ opt p (ctabV p (c.1, mirV p c.2)) = (m : Int) ∧ n < 65536 ∧ m < 65536 ∧ n &&& m = 0 ∧ n ||| m = 2 ^ (2 ^ p.toNat) - 1 := by
  obtain ⟨hp1, hp4⟩ := p_of_claim h
  have h2 := tabF_lt (2 ^ p.toNat) (fun W => !mayT p c W)
  have h3 : 2 ^ p.toNat ≤ 16 := two16 (by omega)
  have h5 : 2 ^ (2 ^ p.toNat) ≤ 2 ^ 16 := Nat.pow_le_pow_right (by decide) h3
  refine ⟨ctabN p c, tabF (2 ^ p.toNat) (fun W => !mayT p c W), ctabV_yes h, mirror_tab h hm h', ctabN_lt hp1 hp4, by omega, ?_, ?_⟩
  · refine Nat.eq_of_testBit_eq fun j => ?_
    unfold ctabN
    rw [Nat.testBit_and, tabF_bit, tabF_bit, Nat.zero_testBit]
    cases decide (j < 2 ^ p.toNat) <;> cases mayT p c j <;> rfl
  · refine Nat.eq_of_testBit_eq fun j => ?_
    unfold ctabN
    rw [Nat.testBit_or, tabF_bit, tabF_bit, Nat.testBit_two_pow_sub_one]
    cases decide (j < 2 ^ p.toNat) <;> cases mayT p c j <;> rfl
end Go.Proofs.Ythiabicleedleaa
/- Odd claims: the mathematics, without code. -/
namespace Go.Proofs.Ythiabicleedleaa
open Go.RowKit
def sayV (p : Int) (c : Cl) : Int := if claimOk p c = true then (heads (ctabN p c) : Int) else -1
def neverV (p : Int) (c : Cl) : Bool := claimOk p c && decide (ctabN p c = 0)
def alwsV (p : Int) (c : Cl) : Bool := claimOk p c && decide (ctabN p c = 2 ^ (2 ^ p.toNat) - 1)
def nestL (k : Int) (c : Cl) : Cl := (k, ctermL c)
def nestOk (p k : Int) (c : Cl) : Bool := claimOk p c && claimOk p (nestL k c)
def nestV (p k : Int) (c : Cl) : Cl := if nestOk p k c then nestL k c else (0, [])
def kindL (k l : Int) (t : Bool) : Cl := (k, if t then [(0, l)] else [(0, l), (2, 0)])
def kindOk (p k l : Int) (t : Bool) : Bool := claimOk p (kindL k l t)
def kindV (p k l : Int) (t : Bool) : Cl := if kindOk p k l t then kindL k l t else (0, [])
theorem sayV_no {p : Int} {c : Cl} (h : claimOk p c = false) : sayV p c = -1 := by simp [sayV, h]
theorem sayV_yes {p : Int} {c : Cl} (h : claimOk p c = true) : sayV p c = (heads (ctabN p c) : Int) := by simp [sayV, h]
theorem neverV_no {p : Int} {c : Cl} (h : claimOk p c = false) : neverV p c = false := by simp [neverV, h]
theorem neverV_yes {p : Int} {c : Cl} (h : claimOk p c = true) : neverV p c = decide (ctabN p c = 0) := by simp [neverV, h]
theorem alwsV_no {p : Int} {c : Cl} (h : claimOk p c = false) : alwsV p c = false := by simp [alwsV, h]
theorem alwsV_yes {p : Int} {c : Cl} (h : claimOk p c = true) : alwsV p c = decide (ctabN p c = 2 ^ (2 ^ p.toNat) - 1) := by simp [alwsV, h]
/-! ### counts of bits -/
theorem heads_compl : ∀ (N T : Nat), N ≤ 32 → T < 2 ^ N → heads T + heads (2 ^ N - 1 - T) = N := by
  intro N
  induction N with
  | zero =>
    intro T _ h
    have : T = 0 := by simpa using h
    subst this
    decide
  | succ N ih =>
    intro T hN h
    have h32 : 2 ^ N ≤ 2 ^ 32 := Nat.pow_le_pow_right (by decide) (by omega)
    have h2 : 2 ^ (N + 1) = 2 * 2 ^ N := by rw [Nat.pow_succ]; omega
    have hpos := Nat.two_pow_pos N
    rw [h2] at h ⊢
    generalize 2 ^ N = M at *
    have h3 := ih (T / 2) (by omega) (by omega)
    rw [heads_step T (by omega), heads_step (2 * M - 1 - T) (by omega)]
    rw [show (2 * M - 1 - T) / 2 = M - 1 - T / 2 by omega]
    omega
theorem heads_nil : heads 0 = 0 := headsF_zero 64
theorem heads_none : ∀ (N T : Nat), N ≤ 32 → T < 2 ^ N → heads T = 0 → T = 0 := by
  intro N
  induction N with
  | zero => intro T _ h _; simpa using h
  | succ N ih =>
    intro T hN h h0
    have h32 : 2 ^ N ≤ 2 ^ 32 := Nat.pow_le_pow_right (by decide) (by omega)
    have h2 : 2 ^ (N + 1) = 2 * 2 ^ N := by rw [Nat.pow_succ]; omega
    rw [h2] at h
    rw [heads_step T (by omega)] at h0
    have := ih (T / 2) (by omega) (by omega) (by omega)
    omega
theorem ctabN_pow {p : Int} (c : Cl) : ctabN p c < 2 ^ (2 ^ p.toNat) := tabF_lt _ _
theorem p_pow {p : Int} (h1 : 1 ≤ p) (h4 : p ≤ 4) : 2 ^ p.toNat ≤ 32 := by have := two16 (p := p.toNat) (by omega); omega
theorem say_zero {p : Int} {c : Cl} (h : claimOk p c = true) : decide (heads (ctabN p c) = 0) = neverV p c := by
  obtain ⟨h1, h4⟩ := p_of_claim h
  rw [neverV_yes h, decide_eq_decide]
  exact ⟨heads_none _ _ (p_pow h1 h4) (ctabN_pow c), fun e => by rw [e]; exact heads_nil⟩
theorem say_all {p : Int} {c : Cl} (h : claimOk p c = true) : decide (heads (ctabN p c) = 2 ^ p.toNat) = alwsV p c := by
  obtain ⟨h1, h4⟩ := p_of_claim h
  have hc := heads_compl (2 ^ p.toNat) (ctabN p c) (p_pow h1 h4) (ctabN_pow c)
  have hlt := ctabN_pow (p := p) c
  rw [alwsV_yes h, decide_eq_decide]
  constructor
  · intro e
    have h0 : heads (2 ^ (2 ^ p.toNat) - 1 - ctabN p c) = 0 := by omega
    have := heads_none (2 ^ p.toNat) _ (p_pow h1 h4) (by omega) h0
    omega
  · intro e
    have hs : 2 ^ (2 ^ p.toNat) - 1 - ctabN p c = 0 := by omega
    rw [hs, heads_nil] at hc
    omega
theorem ctabN_deny {p : Int} {c : Cl} (h : denyOk p c = true) : ctabN p (denyL c) = 2 ^ (2 ^ p.toNat) - 1 - ctabN p c := by
  obtain ⟨h1, h2⟩ := denyOk_both h
  have := ctabV_deny h
  rw [ctabV_yes h1, ctabV_yes h2] at this
  have hlt := ctabN_pow (p := p) c
  have e : ((2 ^ (2 ^ p.toNat) : Nat) : Int) = 2 ^ (2 ^ p.toNat) := by simp
  omega
theorem say_deny {p : Int} {c : Cl} (h : denyOk p c = true) : heads (ctabN p c) + heads (ctabN p (denyL c)) = 2 ^ p.toNat := by
  obtain ⟨hc, _⟩ := denyOk_both h
  obtain ⟨h1, h4⟩ := p_of_claim hc
  rw [ctabN_deny h]
  exact heads_compl _ _ (p_pow h1 h4) (ctabN_pow c)
theorem ctabN_bits {p : Int} {c : Cl} {f : Nat → Bool} (h : ∀ W, W < 2 ^ p.toNat → mayT p c W = f W) : ctabN p c = tabF (2 ^ p.toNat) f := by
  unfold ctabN
  exact tabF_ext.2 h
theorem tabF_none (N : Nat) (f : Nat → Bool) : tabF N f = 0 ↔ ∀ W, W < N → f W = false := by
  constructor
  · intro h W hW
    have := congrArg (fun n => n.testBit W) h
    simpa [tabF_bit, hW] using this
  · intro h
    refine Nat.eq_of_testBit_eq fun j => ?_
    rw [tabF_bit, Nat.zero_testBit]
    by_cases hj : j < N
    · simp [hj, h j hj]
    · simp [hj]
/-! ### claims of kinds -/
theorem un_len (u : Tm) : (Tm.un u).post.length = u.post.length + 1 := by simp [Tm.post]
theorem bin_len (k : Int) (u v : Tm) : (Tm.bin k u v).post.length = u.post.length + v.post.length + 1 := by simp [Tm.post]; omega
theorem kind_ok {p k l : Int} {t : Bool} : kindOk p k l t = true ↔ 1 ≤ p ∧ p ≤ 4 ∧ 0 ≤ k ∧ k < p ∧ 0 ≤ l ∧ l < p := by
  unfold kindOk kindL
  rw [claimOk_iff]
  dsimp only
  have leaf : ∀ {q : Int}, (Tm.leaf 0 l).ok q ↔ 0 ≤ l ∧ l < q := fun {q} => by
    simp only [Tm.ok]
    constructor
    · rintro (⟨_, h1, h2⟩ | ⟨h, _⟩)
      · exact ⟨h1, h2⟩
      · cases h
    · rintro ⟨h1, h2⟩; exact .inl ⟨by trivial, h1, h2⟩
  cases t with
  | true =>
    rw [if_pos rfl]
    constructor
    · rintro ⟨h1, h2, h3, _⟩
      obtain ⟨hp, _, tm, ht, e⟩ := termOk_iff.1 h3
      have hl : tm = .leaf 0 l := by
        have h4 := tmOf_post ht
        rw [← e] at h4
        cases tm with
        | leaf a b => simp [Tm.post] at e; rw [e.1, e.2]
        | un u => have h := congrArg List.length e; rw [un_len] at h; have hu := post_pos u; simp only [List.length_cons, List.length_nil] at h; omega
        | bin a u v => have h := congrArg List.length e; rw [bin_len] at h; have hu := post_pos u; have hv := post_pos v; simp only [List.length_cons, List.length_nil] at h; omega
      subst hl
      obtain ⟨h5, h6⟩ := leaf.1 ht
      exact ⟨hp.1, hp.2, h1, h2, h5, h6⟩
    · rintro ⟨h1, h4, h5, h6, h7, h8⟩
      exact ⟨h5, h6, termOk_iff.2 ⟨⟨h1, h4⟩, by simp, .leaf 0 l, leaf.2 ⟨h7, h8⟩, rfl⟩, by simp⟩
  | false =>
    rw [if_neg (by simp)]
    constructor
    · rintro ⟨h1, h2, h3, _⟩
      obtain ⟨hp, _, tm, ht, e⟩ := termOk_iff.1 h3
      have hl : tm = .un (.leaf 0 l) := by
        cases tm with
        | leaf a b => simp [Tm.post] at e
        | un u =>
          have e2 : u.post = [(0, l)] := by
            have e' : u.post ++ [((2 : Int), (0 : Int))] = [(0, l)] ++ [((2 : Int), (0 : Int))] := by simpa [Tm.post] using e.symm
            exact List.append_cancel_right e'
          cases u with
          | leaf a b => simp [Tm.post] at e2; rw [e2.1, e2.2]
          | un u => have h := congrArg List.length e2; rw [un_len] at h; have hu := post_pos u; simp only [List.length_cons, List.length_nil] at h; omega
          | bin a u v => have h := congrArg List.length e2; rw [bin_len] at h; have hu := post_pos u; have hv := post_pos v; simp only [List.length_cons, List.length_nil] at h; omega
        | bin a u v =>
          have hu := post_pos u
          have hv := post_pos v
          have h := congrArg List.length e
          rw [bin_len] at h
          simp only [List.length_cons, List.length_nil] at h
          omega
      subst hl
      have ht' : (Tm.leaf 0 l).ok p := by simpa [Tm.ok] using ht
      obtain ⟨h5, h6⟩ := leaf.1 ht'
      exact ⟨hp.1, hp.2, h1, h2, h5, h6⟩
    · rintro ⟨h1, h4, h5, h6, h7, h8⟩
      refine ⟨h5, h6, termOk_iff.2 ⟨⟨h1, h4⟩, by simp, .un (.leaf 0 l), ?_, rfl⟩, by simp⟩
      have := (leaf (q := p)).2 ⟨h7, h8⟩
      simpa [Tm.ok] using this
theorem kind_may {p k l : Int} {t : Bool} (h : kindOk p k l t = true) (W : Nat) : mayT p (kindL k l t) W = if t then W.testBit k.toNat == W.testBit l.toNat else W.testBit k.toNat != W.testBit l.toNat := by
  obtain ⟨h1, h4, h5, h6, h7, h8⟩ := kind_ok.1 h
  have hleaf : (Tm.leaf 0 l).ok p := by simp only [Tm.ok]; exact .inl ⟨by trivial, h7, h8⟩
  unfold mayT kindL
  dsimp only
  cases t with
  | true =>
    rw [if_pos rfl, if_pos rfl, show tmOf p [(0, l)] = .leaf 0 l from tmOf_post (t := .leaf 0 l) hleaf, holds, if_pos rfl]
  | false =>
    rw [if_neg (by simp), if_neg (by simp), show tmOf p [(0, l), (2, 0)] = .un (.leaf 0 l) from tmOf_post (t := .un (.leaf 0 l)) (by simpa [Tm.ok] using hleaf), holds_un, holds, if_pos rfl]
    cases W.testBit k.toNat <;> cases W.testBit l.toNat <;> rfl
theorem kind_back_ok {p k l : Int} {t : Bool} (h : kindOk p k l t = true) : kindOk p l k t = true := by
  obtain ⟨h1, h4, h5, h6, h7, h8⟩ := kind_ok.1 h
  exact kind_ok.2 ⟨h1, h4, h7, h8, h5, h6⟩
theorem kind_back {p k l : Int} {t : Bool} (h : kindOk p k l t = true) : ctabN p (kindL l k t) = ctabN p (kindL k l t) := by
  unfold ctabN
  refine tabF_ext.2 fun W _ => ?_
  rw [kind_may h, kind_may (kind_back_ok h)]
  cases t <;> cases W.testBit k.toNat <;> cases W.testBit l.toNat <;> rfl
theorem kind_self {p k : Int} {t : Bool} (h : kindOk p k k t = true) : ctabN p (kindL k k t) = if t then 2 ^ (2 ^ p.toNat) - 1 else 0 := by
  cases t with
  | true =>
    rw [if_pos rfl]
    unfold ctabN
    rw [tabF_full]
    intro W _
    rw [kind_may h, if_pos rfl]; simp
  | false =>
    rw [if_neg (by simp)]
    unfold ctabN
    rw [tabF_none]
    intro W _
    rw [kind_may h, if_neg (by simp)]; simp
theorem half_table : ∀ P : Fin 5, 1 ≤ P.val → ∀ k : Fin 4, k.val < P.val → ∀ l : Fin 4, l.val < P.val → k.val ≠ l.val → ∀ t : Bool, 2 * heads (tabF (2 ^ P.val) fun W => if t then W.testBit k.val == W.testBit l.val else W.testBit k.val != W.testBit l.val) = 2 ^ P.val := by
  decide +kernel
theorem kind_half {p k l : Int} {t : Bool} (h : kindOk p k l t = true) (hne : k ≠ l) : 2 * heads (ctabN p (kindL k l t)) = 2 ^ p.toNat := by
  obtain ⟨h1, h4, h5, h6, h7, h8⟩ := kind_ok.1 h
  obtain ⟨P, rfl⟩ := Int.eq_ofNat_of_zero_le (show 0 ≤ p by omega)
  obtain ⟨K, rfl⟩ := Int.eq_ofNat_of_zero_le h5
  obtain ⟨L, rfl⟩ := Int.eq_ofNat_of_zero_le h7
  rw [ctabN_bits (fun W _ => kind_may h W)]
  rw [Int.toNat_natCast, Int.toNat_natCast, Int.toNat_natCast]
  exact half_table ⟨P, by omega⟩ (by show 1 ≤ P; omega) ⟨K, by omega⟩ (by show K < P; omega) ⟨L, by omega⟩ (by show L < P; omega) (by show K ≠ L; omega) t
/-! ### what is never, and what is always said -/
theorem kind_says_term {p k l : Int} {t : Bool} (h : kindOk p k l t = true) : termOk p (kindL k l t).2 = true := (claimOk_iff.1 h).2.2.1
theorem own_ok {p : Int} {c : Cl} (h : claimOk p c = true) (t : Bool) : kindOk p c.1 c.1 t = true := by
  obtain ⟨h1, h2, _, _⟩ := claimOk_iff.1 h
  obtain ⟨h3, h4⟩ := p_of_claim h
  exact kind_ok.2 ⟨h3, h4, h1, h2, h1, h2⟩
theorem holds_kind {p k l : Int} {t : Bool} (h : kindOk p k l t = true) (W : Nat) : holds W (tmOf p (kindL k l t).2) = if t then W.testBit l.toNat else !W.testBit l.toNat := by
  obtain ⟨h1, h4, h5, h6, h7, h8⟩ := kind_ok.1 h
  have hleaf : (Tm.leaf 0 l).ok p := by simp only [Tm.ok]; exact .inl ⟨by trivial, h7, h8⟩
  unfold kindL
  dsimp only
  cases t with
  | true => rw [if_pos rfl, if_pos rfl, show tmOf p [(0, l)] = .leaf 0 l from tmOf_post (t := .leaf 0 l) hleaf, holds, if_pos rfl]
  | false => rw [if_neg (by simp), if_neg (by simp), show tmOf p [(0, l), (2, 0)] = .un (.leaf 0 l) from tmOf_post (t := .un (.leaf 0 l)) (by simpa [Tm.ok] using hleaf), holds_un, holds, if_pos rfl]
theorem never_same {p : Int} {c : Cl} (h : claimOk p c = true) : sameV p c.2 (kindL c.1 c.1 false).2 = neverV p c := by
  have hk := own_ok h false
  have ht := (claimOk_iff.1 h).2.2.1
  have ht2 := kind_says_term hk
  unfold sameV
  rw [ht, ht2, neverV_yes h, Bool.true_and, Bool.true_and, decide_eq_decide, tabV_yes ht, tabV_yes ht2]
  unfold ctabN
  rw [tabF_none]
  constructor
  · intro e W hW
    have e' : tabF (2 ^ p.toNat) (fun w => holds w (tmOf p c.2)) = tabF (2 ^ p.toNat) (fun w => holds w (tmOf p (kindL c.1 c.1 false).2)) := by exact_mod_cast e
    have := tabF_ext.1 e' W hW
    try dsimp only at this
    rw [holds_kind hk, if_neg (by simp)] at this
    unfold mayT
    rw [this]
    cases W.testBit c.1.toNat <;> rfl
  · intro e
    have : tabF (2 ^ p.toNat) (fun w => holds w (tmOf p c.2)) = tabF (2 ^ p.toNat) (fun w => holds w (tmOf p (kindL c.1 c.1 false).2)) := by
      refine tabF_ext.2 fun W hW => ?_
      have := e W hW
      unfold mayT at this
      rw [holds_kind hk, if_neg (by simp)]
      revert this
      cases W.testBit c.1.toNat <;> cases holds W (tmOf p c.2) <;> simp
    rw [this]
theorem always_same {p : Int} {c : Cl} (h : claimOk p c = true) : sameV p c.2 (kindL c.1 c.1 true).2 = alwsV p c := by
  have hk := own_ok h true
  have ht := (claimOk_iff.1 h).2.2.1
  have ht2 := kind_says_term hk
  unfold sameV
  rw [ht, ht2, alwsV_yes h, Bool.true_and, Bool.true_and, decide_eq_decide, tabV_yes ht, tabV_yes ht2]
  unfold ctabN
  rw [tabF_full]
  constructor
  · intro e W hW
    have e' : tabF (2 ^ p.toNat) (fun w => holds w (tmOf p c.2)) = tabF (2 ^ p.toNat) (fun w => holds w (tmOf p (kindL c.1 c.1 true).2)) := by exact_mod_cast e
    have := tabF_ext.1 e' W hW
    try dsimp only at this
    rw [holds_kind hk, if_pos rfl] at this
    unfold mayT
    rw [this]
    cases W.testBit c.1.toNat <;> rfl
  · intro e
    have : tabF (2 ^ p.toNat) (fun w => holds w (tmOf p c.2)) = tabF (2 ^ p.toNat) (fun w => holds w (tmOf p (kindL c.1 c.1 true).2)) := by
      refine tabF_ext.2 fun W hW => ?_
      have := e W hW
      unfold mayT at this
      rw [holds_kind hk, if_pos rfl]
      revert this
      cases W.testBit c.1.toNat <;> cases holds W (tmOf p c.2) <;> simp
    rw [this]
/-! ### claims of claims -/
theorem nest_both {p k : Int} {c : Cl} (h : nestOk p k c = true) : claimOk p c = true ∧ claimOk p (nestL k c) = true := by simpa [nestOk] using h
theorem nest_may {p k : Int} {c : Cl} (h : nestOk p k c = true) (W : Nat) : mayT p (nestL k c) W = ((W.testBit k.toNat == W.testBit c.1.toNat) == holds W (tmOf p c.2)) := by
  obtain ⟨h1, _⟩ := nest_both h
  have e : mayT p (nestL k c) W = (W.testBit k.toNat == holds W (tmOf p (ctermL c))) := rfl
  rw [e, holds_cterm h1]
  unfold mayT
  cases W.testBit k.toNat <;> cases W.testBit c.1.toNat <;> cases holds W (tmOf p c.2) <;> rfl
end Go.Proofs.Ythiabicleedleaa

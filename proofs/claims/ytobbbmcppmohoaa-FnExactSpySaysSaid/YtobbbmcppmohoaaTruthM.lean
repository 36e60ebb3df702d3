/- What holds: mirrored terms, opposite worlds, who matters: the mathematics, without code. -/
import Derived.Test.YtobbbmcppmohoaaTruth
import Derived.Test.YtobbbmcppmohoaaMirror
import Derived.Test.YtobbbmcppmohoaaTables
namespace Go.Proofs.Ytobbbmcppmohoaa
open Go.RowKit

def mirT (p : Int) : Tm → Tm
  | .leaf k x => if k = 0 then .un (.leaf 0 x) else .un (.leaf 1 (p + 1 - x))
  | .un t => .un (mirT p t)
  | .bin k a b => .bin k (mirT p a) (mirT p b)
theorem mirT_ok {p : Int} : ∀ (t : Tm), t.ok p → (mirT p t).ok p
  | .leaf k x, h => by
    simp only [Tm.ok] at h
    rcases h with ⟨rfl, h0, h1⟩ | ⟨rfl, h0, h1⟩
    · rw [mirT, if_pos rfl]; simp only [Tm.ok]; left; exact ⟨trivial, h0, h1⟩
    · rw [mirT, if_neg (by decide)]; simp only [Tm.ok]; right; refine ⟨trivial, ?_, ?_⟩ <;> omega
  | .un t, h => by rw [mirT]; simp only [Tm.ok] at h ⊢; exact mirT_ok t h
  | .bin k a b, h => by rw [mirT]; simp only [Tm.ok] at h ⊢; exact ⟨h.1, h.2.1, mirT_ok a h.2.2.1, mirT_ok b h.2.2.2⟩
theorem mirT_post {p : Int} : ∀ (t : Tm), t.ok p → (mirT p t).post = mirN p t.post
  | .leaf k x, h => by
    simp only [Tm.ok] at h
    rcases h with ⟨rfl, h0, h1⟩ | ⟨rfl, h0, h1⟩
    · rw [mirT, if_pos rfl]; rfl
    · rw [mirT, if_neg (by decide)]; rfl
  | .un t, h => by
    rw [mirT]
    simp only [Tm.post, mirN, List.flatMap_append]
    rw [mirT_post t (by simpa only [Tm.ok] using h)]
    rfl
  | .bin k a b, h => by
    simp only [Tm.ok] at h
    rw [mirT]
    simp only [Tm.post, mirN, List.flatMap_append]
    rw [mirT_post a h.2.2.1, mirT_post b h.2.2.2]
    rw [List.flatMap_cons, mirMe (by omega)]
    rfl
theorem mirT_term {p : Int} {ms : List (Int × Int)} (h : mirOk p ms = true) : termOk p ms = true ∧ termOk p (mirV p ms) = true ∧ tmOf p (mirV p ms) = mirT p (tmOf p ms) := by
  have h1 := h
  unfold mirOk at h
  rw [Bool.and_eq_true, decide_eq_true_eq] at h
  obtain ⟨hok, hl⟩ := h
  have e : mirV p ms = mirN p ms := by simp [mirV, h1]
  obtain ⟨hp, _, t, ht, rfl⟩ := termOk_iff.1 hok
  rw [e, ← mirT_post t ht] at *
  exact ⟨hok, termOk_iff.2 ⟨hp, hl, _, mirT_ok t ht, rfl⟩, by rw [tmOf_post (mirT_ok t ht), tmOf_post ht]⟩
theorem turn_bits : ∀ p : Fin 5, 1 ≤ p.val → ∀ w : Fin 16, w.val < 2 ^ p.val → (∀ x : Fin 4, x.val < p.val → (2 ^ p.val - 1 - w.val).testBit x.val = !w.val.testBit x.val) ∧ heads (2 ^ p.val - 1 - w.val) + heads w.val = p.val := by decide +kernel
theorem flip_bits : ∀ p : Fin 5, 1 ≤ p.val → ∀ w : Fin 16, w.val < 2 ^ p.val → ∀ k : Fin 4, k.val < p.val → (2 ^ p.val - 1 - w.val) ^^^ (1 <<< k.val) = 2 ^ p.val - 1 - (w.val ^^^ (1 <<< k.val)) ∧ w.val ^^^ (1 <<< k.val) < 2 ^ p.val ∧ (w.val ^^^ (1 <<< k.val)) ^^^ (1 <<< k.val) = w.val := by decide +kernel
theorem less_bits : ∀ w : Fin 16, w.val ≠ 0 → ∃ k : Fin 4, w.val ^^^ (1 <<< k.val) < w.val ∧ 2 ^ k.val ≤ w.val := by decide +kernel
theorem two16 {p : Nat} (h : p ≤ 4) : 2 ^ p ≤ 16 := by
  have h2 : 2 ^ p ≤ 2 ^ 4 := Nat.pow_le_pow_right (by decide) h
  omega
/-- in the opposite world the mirrored term holds just if the term did -/
theorem holds_mir {p : Nat} (h1 : 1 ≤ p) (h4 : p ≤ 4) {w : Nat} (hw : w < 2 ^ p) : ∀ t : Tm, t.ok p → holds (2 ^ p - 1 - w) (mirT p t) = holds w t
  | .leaf k x, h => by
    have h16 := two16 h4
    obtain ⟨hb, hh⟩ := turn_bits ⟨p, by omega⟩ h1 ⟨w, by omega⟩ hw
    simp only [Tm.ok] at h
    rcases h with ⟨rfl, h0, hx⟩ | ⟨rfl, h0, hx⟩
    · rw [mirT, if_pos rfl, holds_un, holds, holds, if_pos rfl, if_pos rfl]
      have := hb ⟨x.toNat, by omega⟩ (by show x.toNat < p; omega)
      dsimp only at this
      rw [this]; simp
    · rw [mirT, if_neg (by decide), holds_un, holds, holds, if_neg (by decide), if_neg (by decide)]
      dsimp only at hh
      rw [← decide_not, decide_eq_decide]
      omega
  | .un t, h => by
    rw [mirT, holds_un, holds_un, holds_mir h1 h4 hw t (by simpa only [Tm.ok] using h)]
  | .bin k a b, h => by
    simp only [Tm.ok] at h
    rw [mirT, holds, holds, holds_mir h1 h4 hw a h.2.2.1, holds_mir h1 h4 hw b h.2.2.2]
theorem ok_of {p : Int} {ms : List (Int × Int)} (h : termOk p ms = true) : (tmOf p ms).ok p := by
  obtain ⟨_, _, t, ht, rfl⟩ := termOk_iff.1 h
  rw [tmOf_post ht]; exact ht
/-- the opposite of a world -/
def opw (p x : Int) : Int := 2 ^ p.toNat - 1 - x
theorem opw_ok {p x : Int} (h : wOk p x = true) : wOk p (opw p x) = true := by
  obtain ⟨h1, h4, h0, hx⟩ := wOk_iff.1 h
  refine wOk_iff.2 ⟨h1, h4, ?_, ?_⟩ <;> unfold opw <;> omega
theorem holdsV_mir {p : Int} {ms : List (Int × Int)} (h : mirOk p ms = true) {x : Int} (hx : wOk p x = true) : holdsV p (mirV p ms) (opw p x) = holdsV p ms x := by
  obtain ⟨h1, h2, h3⟩ := mirT_term h
  obtain ⟨hp1, hp4, hx0, hxl⟩ := wOk_iff.1 hx
  obtain ⟨P, rfl⟩ := Int.eq_ofNat_of_zero_le (show 0 ≤ p by omega)
  obtain ⟨X, rfl⟩ := Int.eq_ofNat_of_zero_le hx0
  have hX : X < 2 ^ P := by have := hxl; rw [Int.toNat_natCast] at this; exact_mod_cast this
  have e : (opw P X).toNat = 2 ^ P - 1 - X := by
    unfold opw; rw [Int.toNat_natCast]
    have : ((2 ^ P : Nat) : Int) = 2 ^ P := by simp
    omega
  unfold holdsV
  rw [h1, h2, hx, opw_ok hx, h3, e, Int.toNat_natCast, holds_mir (by omega) (by omega) hX _ (ok_of h1)]
theorem tab_bit {T N i : Nat} : (turned T N N).testBit i = decide (∃ j, j < N ∧ T.testBit j = true ∧ N - 1 - j = i) := by
  unfold turned
  rw [tabOf_bit, decide_eq_decide]
  simp only [List.mem_map, wl_mem]
  constructor
  · rintro ⟨j, ⟨h1, h2⟩, h3⟩; exact ⟨j, h1, h2, h3⟩
  · rintro ⟨j, h1, h2, h3⟩; exact ⟨j, ⟨h1, h2⟩, h3⟩
theorem tabF_turned (N : Nat) (f g : Nat → Bool) (h : ∀ w, w < N → g (N - 1 - w) = f w) : tabF N g = turned (tabF N f) N N := by
  by_cases hN : N = 0
  · subst hN; rfl
  refine bit_ext (tabF_lt N g) (turned_lt (Nat.le_refl N) (by omega)) (fun i hi => ?_)
  rw [tabF_bit, tab_bit, decide_eq_true hi, Bool.true_and, Bool.eq_iff_iff, decide_eq_true_eq]
  constructor
  · intro hg
    refine ⟨N - 1 - i, by omega, ?_, by omega⟩
    rw [tabF_bit, decide_eq_true (by omega), Bool.true_and, ← h (N - 1 - i) (by omega)]
    rw [show N - 1 - (N - 1 - i) = i by omega]; exact hg
  · rintro ⟨j, hj, hb, rfl⟩
    rw [tabF_bit, decide_eq_true hj, Bool.true_and] at hb
    rw [h j hj]; exact hb
theorem tabV_ok {p : Int} {ms : List (Int × Int)} (h : termOk p ms = true) : tOk p (tabV p ms) = true := by
  obtain ⟨h1, h4⟩ := p_of h
  rw [tabV_yes h]
  have := tabF_lt (2 ^ p.toNat) (fun w => holds w (tmOf p ms))
  refine tOk_iff.2 ⟨h1, h4, by omega, ?_⟩
  exact_mod_cast this
theorem tabV_mir {p : Int} {ms : List (Int × Int)} (h : mirOk p ms = true) : tabV p (mirV p ms) = opt p (tabV p ms) := by
  obtain ⟨h1, h2, h3⟩ := mirT_term h
  have hok := tabV_ok h1
  obtain ⟨hp1, hp4⟩ := p_of h1
  obtain ⟨P, rfl⟩ := Int.eq_ofNat_of_zero_le (show 0 ≤ p by omega)
  rw [tabV_yes h1] at hok ⊢
  rw [tabV_yes h2, opt_yes hok, h3]
  congr 1
  rw [Int.toNat_natCast]
  exact tabF_turned _ _ _ (fun w hw => holds_mir (by omega) (by omega) hw _ (ok_of h1))
theorem tab_holds {p : Int} {ms : List (Int × Int)} (h : termOk p ms = true) {w : Nat} (hw : w < 2 ^ p.toNat) : (tabV p ms).toNat.testBit w = holdsV p ms w := by
  have hx : wOk p w = true := by
    obtain ⟨h1, h4⟩ := p_of h
    exact wOk_iff.2 ⟨h1, h4, by omega, by exact_mod_cast hw⟩
  unfold holdsV
  rw [tabV_yes h, Int.toNat_natCast, tabF_bit, decide_eq_true hw, h, hx, Int.toNat_natCast]
  simp
/-! ### who matters -/
theorem matter_mir {p : Int} {ms : List (Int × Int)} (h : mirOk p ms = true) : matterV p (mirV p ms) = matterV p ms := by
  obtain ⟨h1, h2, h3⟩ := mirT_term h
  obtain ⟨hp1, hp4⟩ := p_of h1
  obtain ⟨P, rfl⟩ := Int.eq_ofNat_of_zero_le (show 0 ≤ p by omega)
  have h16 := two16 (p := P) (by omega)
  unfold matterV
  rw [h1, h2, h3]
  simp only [if_true]
  congr 1
  unfold matterN
  rw [tabF_ext]
  intro k hk
  rw [Int.toNat_natCast] at hk
  unfold matters
  rw [decide_eq_decide, Int.toNat_natCast]
  have key : ∀ w, w < 2 ^ P → (holds (2 ^ P - 1 - w) (mirT P (tmOf P ms)) = holds w (tmOf P ms)) ∧ (2 ^ P - 1 - w) ^^^ (1 <<< k) = 2 ^ P - 1 - (w ^^^ (1 <<< k)) ∧ w ^^^ (1 <<< k) < 2 ^ P := fun w hw => by
    obtain ⟨a, b, _⟩ := flip_bits ⟨P, by omega⟩ (by show 1 ≤ P; omega) ⟨w, by omega⟩ hw ⟨k, by omega⟩ hk
    exact ⟨holds_mir (by omega) (by omega) hw _ (ok_of h1), a, b⟩
  constructor
  · rintro ⟨w, hw, hne⟩
    refine ⟨2 ^ P - 1 - w, by omega, ?_⟩
    obtain ⟨a, b, c⟩ := key (2 ^ P - 1 - w) (by omega)
    obtain ⟨a2, b2, c2⟩ := key ((2 ^ P - 1 - w) ^^^ (1 <<< k)) c
    rw [← a, ← a2, show 2 ^ P - 1 - (2 ^ P - 1 - w) = w by omega, ← b, show 2 ^ P - 1 - (2 ^ P - 1 - w) = w by omega]
    exact hne
  · rintro ⟨w, hw, hne⟩
    refine ⟨2 ^ P - 1 - w, by omega, ?_⟩
    obtain ⟨a, b, c⟩ := key w hw
    obtain ⟨a2, _, _⟩ := key (w ^^^ (1 <<< k)) c
    rw [a, b, a2]; exact hne
theorem same_all {P : Nat} (h4 : P ≤ 4) (f : Nat → Bool) (h : ∀ k, k < P → ∀ w, w < 2 ^ P → f w = f (w ^^^ 1 <<< k)) : ∀ w, w < 2 ^ P → f w = f 0 := by
  have h16 := two16 h4
  intro w
  induction w using Nat.strongRecOn with
  | ind w ih =>
    intro hw
    by_cases h0 : w = 0
    · rw [h0]
    · obtain ⟨k, hk, hk2⟩ := less_bits ⟨w, by omega⟩ h0
      dsimp only at hk hk2
      have hkP : k.val < P := by
        by_cases hc : k.val < P
        · exact hc
        · have : 2 ^ P ≤ 2 ^ k.val := Nat.pow_le_pow_right (by decide) (by omega)
          omega
      rw [h k.val hkP w hw]
      exact ih _ hk (by omega)
theorem always_matter {p : Int} {ms : List (Int × Int)} (h : termOk p ms = true) : alwaysV p ms = (decide (matterV p ms = 0) && holdsV p ms 0) := by
  obtain ⟨hp1, hp4⟩ := p_of h
  have hx : wOk p 0 = true := wOk_iff.2 ⟨hp1, hp4, by omega, by
    have h2 : 0 < 2 ^ p.toNat := Nat.two_pow_pos _
    exact_mod_cast h2⟩
  obtain ⟨P, rfl⟩ := Int.eq_ofNat_of_zero_le (show 0 ≤ p by omega)
  have hpos := Nat.two_pow_pos P
  unfold alwaysV holdsV matterV
  rw [h, hx]
  simp only [if_true, Bool.true_and]
  rw [Bool.eq_iff_iff, Bool.and_eq_true, decide_eq_true_eq, decide_eq_true_eq, Int.toNat_natCast]
  generalize tmOf (P : Int) ms = t
  constructor
  · intro hall
    refine ⟨?_, hall 0 hpos⟩
    have : matterN P t = 0 := by
      refine Nat.eq_of_testBit_eq fun k => ?_
      unfold matterN
      rw [tabF_bit, Nat.zero_testBit, Int.toNat_natCast]
      by_cases hk : k < P
      · rw [decide_eq_true hk, Bool.true_and]
        unfold matters
        rw [decide_eq_false_iff_not, Int.toNat_natCast]
        rintro ⟨w, hw, hne⟩
        have h16 := two16 (p := P) (by omega)
        obtain ⟨_, b, _⟩ := flip_bits ⟨P, by omega⟩ (by show 1 ≤ P; omega) ⟨w, by omega⟩ hw ⟨k, by omega⟩ hk
        exact hne (by rw [hall w hw, hall _ b])
      · rw [decide_eq_false hk, Bool.false_and]
    omega
  · rintro ⟨hm, h0⟩ w hw
    have hm' : matterN P t = 0 := by omega
    rw [same_all (P := P) (by omega) (fun w => holds w t) (fun k hk w hw => ?_) w hw]
    · exact h0
    · have hb := congrArg (fun x => x.testBit k) hm'
      unfold matterN at hb
      rw [tabF_bit, Nat.zero_testBit, Int.toNat_natCast, decide_eq_true hk, Bool.true_and] at hb
      unfold matters at hb
      rw [decide_eq_false_iff_not, Int.toNat_natCast] at hb
      by_cases e : holds w t = holds (w ^^^ 1 <<< k) t
      · exact e
      · exact absurd ⟨w, hw, e⟩ hb
/-! ### without counts just who is read matters -/
theorem holds_apart {p : Int} {k : Nat} (w : Nat) : ∀ t : Tm, t.ok p → (∀ m ∈ t.post, m.1 ≠ 1 ∧ (m.1 = 0 → m.2.toNat ≠ k)) → holds (w ^^^ 1 <<< k) t = holds w t
  | .leaf c x, ht, h => by
    have h1 := h (c, x) (by simp [Tm.post])
    dsimp only at h1
    simp only [Tm.ok] at ht
    rw [holds, holds]
    have hc : c = 0 := by omega
    rw [if_pos hc, if_pos hc, Nat.testBit_xor, Nat.one_shiftLeft, Nat.testBit_two_pow]
    have hx := h1.2 hc
    have : decide (k = x.toNat) = false := by simp; omega
    rw [this]; simp
  | .un t, ht, h => by
    rw [holds_un, holds_un, holds_apart w t (by simpa only [Tm.ok] using ht) (fun m hm => h m (by simp [Tm.post, hm]))]
  | .bin c a b, ht, h => by
    simp only [Tm.ok] at ht
    rw [holds, holds, holds_apart w a ht.2.2.1 (fun m hm => h m (by simp [Tm.post, hm])), holds_apart w b ht.2.2.2 (fun m hm => h m (by simp [Tm.post, hm]))]
theorem readN_bits (k : Nat) : ∀ (ms : List (Int × Int)) (n : Nat), (∀ m ∈ ms, m.1 = 0 → m.2.toNat = k → (ms.foldl rdStep n).testBit k = true) ∧ (n.testBit k = true → (ms.foldl rdStep n).testBit k = true)
  | [], n => ⟨fun m hm => by simp at hm, fun h => h⟩
  | (c, x) :: r, n => by
    obtain ⟨h1, h2⟩ := readN_bits k r (rdStep n (c, x))
    rw [List.foldl_cons]
    constructor
    · intro m hm hm0 hmk
      rcases List.mem_cons.1 hm with rfl | hm
      · refine h2 ?_
        dsimp only at hm0 hmk
        unfold rdStep
        dsimp only
        rw [if_pos hm0, hmk, Nat.testBit_or, Nat.one_shiftLeft, Nat.testBit_two_pow]
        simp
      · exact h1 m hm hm0 hmk
    · intro hn
      refine h2 ?_
      unfold rdStep
      dsimp only
      split
      · rw [Nat.testBit_or, hn]; rfl
      · exact hn
theorem matter_read {p : Int} {ms : List (Int × Int)} (h : termOk p ms = true) (hc : ∀ m ∈ ms, m.1 ≠ 1) (k : Nat) (hk : (matterN p (tmOf p ms)).testBit k = true) : (readN ms).testBit k = true := by
  by_cases hr : (readN ms).testBit k = true
  · exact hr
  · exfalso
    have ht := ok_of h
    have hpost : (tmOf p ms).post = ms := by
      obtain ⟨_, _, t, ht2, rfl⟩ := termOk_iff.1 h
      rw [tmOf_post ht2]
    unfold matterN at hk
    rw [tabF_bit, Bool.and_eq_true] at hk
    have h2 := hk.2
    unfold matters at h2
    rw [decide_eq_true_eq] at h2
    obtain ⟨w, _, hne⟩ := h2
    refine hne (holds_apart w _ ht (fun m hm => ?_)).symm
    rw [hpost] at hm
    exact ⟨hc m hm, fun h0 hk2 => hr ((readN_bits k ms 0).1 m hm h0 hk2)⟩
end Go.Proofs.Ytobbbmcppmohoaa

/- Odd claims: the mathematics, without code. -/
import Derived.Test.YtobbbmcppmohoaaClaimM
namespace Go.Proofs.Ytobbbmcppmohoaa
open Go.RowKit
def sayV (p : Int) (c : Cl) : Int := if claimOk p c = true then (heads (ctabN p c) : Int) else -1
def neverV (p : Int) (c : Cl) : Bool := claimOk p c && decide (ctabN p c = 0)
def alwsV (p : Int) (c : Cl) : Bool := claimOk p c && decide (ctabN p c = 2 ^ (2 ^ p.toNat) - 1)
def nestL (k : Int) (c : Cl) : Cl := (k, ctermL c)
def nestOk (p k : Int) (c : Cl) : Bool := claimOk p c && claimOk p (nestL k c)
def nestV (p k : Int) (c : Cl) : Cl := if nestOk p k c then nestL k c else (0, [])
def kindL (k l : Int) (t : Bool) : Cl := (k, if t then [(0, l)] else [(0, l), (2, 0)])
def kindOk (p k l : Int) (t : Bool) : Bool := claimOk p (kindL k l t)
def kindV (p k l : Int) (t : Bool) : Cl := if kindOk p k l t then kindL k l t else (0, [])
theorem sayV_no {p : Int} {c : Cl} (h : claimOk p c = false) : sayV p c = -1 := by simp [sayV, h]
theorem sayV_yes {p : Int} {c : Cl} (h : claimOk p c = true) : sayV p c = (heads (ctabN p c) : Int) := by simp [sayV, h]
theorem neverV_no {p : Int} {c : Cl} (h : claimOk p c = false) : neverV p c = false := by simp [neverV, h]
theorem neverV_yes {p : Int} {c : Cl} (h : claimOk p c = true) : neverV p c = decide (ctabN p c = 0) := by simp [neverV, h]
theorem alwsV_no {p : Int} {c : Cl} (h : claimOk p c = false) : alwsV p c = false := by simp [alwsV, h]
theorem alwsV_yes {p : Int} {c : Cl} (h : claimOk p c = true) : alwsV p c = decide (ctabN p c = 2 ^ (2 ^ p.toNat) - 1) := by simp [alwsV, h]
/-! ### counts of bits -/
theorem heads_compl : ∀ (N T : Nat), N ≤ 32 → T < 2 ^ N → heads T + heads (2 ^ N - 1 - T) = N := by
  intro N
  induction N with
  | zero =>
    intro T _ h
    have : T = 0 := by simpa using h
    subst this
    decide
  | succ N ih =>
    intro T hN h
    have h32 : 2 ^ N ≤ 2 ^ 32 := Nat.pow_le_pow_right (by decide) (by omega)
    have h2 : 2 ^ (N + 1) = 2 * 2 ^ N := by rw [Nat.pow_succ]; omega
    have hpos := Nat.two_pow_pos N
    rw [h2] at h ⊢
    generalize 2 ^ N = M at *
    have h3 := ih (T / 2) (by omega) (by omega)
    rw [heads_step T (by omega), heads_step (2 * M - 1 - T) (by omega)]
    rw [show (2 * M - 1 - T) / 2 = M - 1 - T / 2 by omega]
    omega
theorem heads_nil : heads 0 = 0 := headsF_zero 64
theorem heads_none : ∀ (N T : Nat), N ≤ 32 → T < 2 ^ N → heads T = 0 → T = 0 := by
  intro N
  induction N with
  | zero => intro T _ h _; simpa using h
  | succ N ih =>
    intro T hN h h0
    have h32 : 2 ^ N ≤ 2 ^ 32 := Nat.pow_le_pow_right (by decide) (by omega)
    have h2 : 2 ^ (N + 1) = 2 * 2 ^ N := by rw [Nat.pow_succ]; omega
    rw [h2] at h
    rw [heads_step T (by omega)] at h0
    have := ih (T / 2) (by omega) (by omega) (by omega)
    omega
theorem ctabN_pow {p : Int} (c : Cl) : ctabN p c < 2 ^ (2 ^ p.toNat) := tabF_lt _ _
theorem p_pow {p : Int} (h1 : 1 ≤ p) (h4 : p ≤ 4) : 2 ^ p.toNat ≤ 32 := by have := two16 (p := p.toNat) (by omega); omega
theorem say_zero {p : Int} {c : Cl} (h : claimOk p c = true) : decide (heads (ctabN p c) = 0) = neverV p c := by
  obtain ⟨h1, h4⟩ := p_of_claim h
  rw [neverV_yes h, decide_eq_decide]
  exact ⟨heads_none _ _ (p_pow h1 h4) (ctabN_pow c), fun e => by rw [e]; exact heads_nil⟩
theorem say_all {p : Int} {c : Cl} (h : claimOk p c = true) : decide (heads (ctabN p c) = 2 ^ p.toNat) = alwsV p c := by
  obtain ⟨h1, h4⟩ := p_of_claim h
  have hc := heads_compl (2 ^ p.toNat) (ctabN p c) (p_pow h1 h4) (ctabN_pow c)
  have hlt := ctabN_pow (p := p) c
  rw [alwsV_yes h, decide_eq_decide]
  constructor
  · intro e
    have h0 : heads (2 ^ (2 ^ p.toNat) - 1 - ctabN p c) = 0 := by omega
    have := heads_none (2 ^ p.toNat) _ (p_pow h1 h4) (by omega) h0
    omega
  · intro e
    have hs : 2 ^ (2 ^ p.toNat) - 1 - ctabN p c = 0 := by omega
    rw [hs, heads_nil] at hc
    omega
theorem ctabN_deny {p : Int} {c : Cl} (h : denyOk p c = true) : ctabN p (denyL c) = 2 ^ (2 ^ p.toNat) - 1 - ctabN p c := by
  obtain ⟨h1, h2⟩ := denyOk_both h
  have := ctabV_deny h
  rw [ctabV_yes h1, ctabV_yes h2] at this
  have hlt := ctabN_pow (p := p) c
  have e : ((2 ^ (2 ^ p.toNat) : Nat) : Int) = 2 ^ (2 ^ p.toNat) := by simp
  omega
theorem say_deny {p : Int} {c : Cl} (h : denyOk p c = true) : heads (ctabN p c) + heads (ctabN p (denyL c)) = 2 ^ p.toNat := by
  obtain ⟨hc, _⟩ := denyOk_both h
  obtain ⟨h1, h4⟩ := p_of_claim hc
  rw [ctabN_deny h]
  exact heads_compl _ _ (p_pow h1 h4) (ctabN_pow c)
theorem ctabN_bits {p : Int} {c : Cl} {f : Nat → Bool} (h : ∀ W, W < 2 ^ p.toNat → mayT p c W = f W) : ctabN p c = tabF (2 ^ p.toNat) f := by
  unfold ctabN
  exact tabF_ext.2 h
theorem tabF_none (N : Nat) (f : Nat → Bool) : tabF N f = 0 ↔ ∀ W, W < N → f W = false := by
  constructor
  · intro h W hW
    have := congrArg (fun n => n.testBit W) h
    simpa [tabF_bit, hW] using this
  · intro h
    refine Nat.eq_of_testBit_eq fun j => ?_
    rw [tabF_bit, Nat.zero_testBit]
    by_cases hj : j < N
    · simp [hj, h j hj]
    · simp [hj]
/-! ### claims of kinds -/
theorem un_len (u : Tm) : (Tm.un u).post.length = u.post.length + 1 := by simp [Tm.post]
theorem bin_len (k : Int) (u v : Tm) : (Tm.bin k u v).post.length = u.post.length + v.post.length + 1 := by simp [Tm.post]; omega
theorem kind_ok {p k l : Int} {t : Bool} : kindOk p k l t = true ↔ 1 ≤ p ∧ p ≤ 4 ∧ 0 ≤ k ∧ k < p ∧ 0 ≤ l ∧ l < p := by
  unfold kindOk kindL
  rw [claimOk_iff]
  dsimp only
  have leaf : ∀ {q : Int}, (Tm.leaf 0 l).ok q ↔ 0 ≤ l ∧ l < q := fun {q} => by
    simp only [Tm.ok]
    constructor
    · rintro (⟨_, h1, h2⟩ | ⟨h, _⟩)
      · exact ⟨h1, h2⟩
      · cases h
    · rintro ⟨h1, h2⟩; exact .inl ⟨by trivial, h1, h2⟩
  cases t with
  | true =>
    rw [if_pos rfl]
    constructor
    · rintro ⟨h1, h2, h3, _⟩
      obtain ⟨hp, _, tm, ht, e⟩ := termOk_iff.1 h3
      have hl : tm = .leaf 0 l := by
        have h4 := tmOf_post ht
        rw [← e] at h4
        cases tm with
        | leaf a b => simp [Tm.post] at e; rw [e.1, e.2]
        | un u => have h := congrArg List.length e; rw [un_len] at h; have hu := post_pos u; simp only [List.length_cons, List.length_nil] at h; omega
        | bin a u v => have h := congrArg List.length e; rw [bin_len] at h; have hu := post_pos u; have hv := post_pos v; simp only [List.length_cons, List.length_nil] at h; omega
      subst hl
      obtain ⟨h5, h6⟩ := leaf.1 ht
      exact ⟨hp.1, hp.2, h1, h2, h5, h6⟩
    · rintro ⟨h1, h4, h5, h6, h7, h8⟩
      exact ⟨h5, h6, termOk_iff.2 ⟨⟨h1, h4⟩, by simp, .leaf 0 l, leaf.2 ⟨h7, h8⟩, rfl⟩, by simp⟩
  | false =>
    rw [if_neg (by simp)]
    constructor
    · rintro ⟨h1, h2, h3, _⟩
      obtain ⟨hp, _, tm, ht, e⟩ := termOk_iff.1 h3
      have hl : tm = .un (.leaf 0 l) := by
        cases tm with
        | leaf a b => simp [Tm.post] at e
        | un u =>
          have e2 : u.post = [(0, l)] := by
            have e' : u.post ++ [((2 : Int), (0 : Int))] = [(0, l)] ++ [((2 : Int), (0 : Int))] := by simpa [Tm.post] using e.symm
            exact List.append_cancel_right e'
          cases u with
          | leaf a b => simp [Tm.post] at e2; rw [e2.1, e2.2]
          | un u => have h := congrArg List.length e2; rw [un_len] at h; have hu := post_pos u; simp only [List.length_cons, List.length_nil] at h; omega
          | bin a u v => have h := congrArg List.length e2; rw [bin_len] at h; have hu := post_pos u; have hv := post_pos v; simp only [List.length_cons, List.length_nil] at h; omega
        | bin a u v =>
          have hu := post_pos u
          have hv := post_pos v
          have h := congrArg List.length e
          rw [bin_len] at h
          simp only [List.length_cons, List.length_nil] at h
          omega
      subst hl
      have ht' : (Tm.leaf 0 l).ok p := by simpa [Tm.ok] using ht
      obtain ⟨h5, h6⟩ := leaf.1 ht'
      exact ⟨hp.1, hp.2, h1, h2, h5, h6⟩
    · rintro ⟨h1, h4, h5, h6, h7, h8⟩
      refine ⟨h5, h6, termOk_iff.2 ⟨⟨h1, h4⟩, by simp, .un (.leaf 0 l), ?_, rfl⟩, by simp⟩
      have := (leaf (q := p)).2 ⟨h7, h8⟩
      simpa [Tm.ok] using this
theorem kind_may {p k l : Int} {t : Bool} (h : kindOk p k l t = true) (W : Nat) : mayT p (kindL k l t) W = if t then W.testBit k.toNat == W.testBit l.toNat else W.testBit k.toNat != W.testBit l.toNat := by
  obtain ⟨h1, h4, h5, h6, h7, h8⟩ := kind_ok.1 h
  have hleaf : (Tm.leaf 0 l).ok p := by simp only [Tm.ok]; exact .inl ⟨by trivial, h7, h8⟩
  unfold mayT kindL
  dsimp only
  cases t with
  | true =>
    rw [if_pos rfl, if_pos rfl, show tmOf p [(0, l)] = .leaf 0 l from tmOf_post (t := .leaf 0 l) hleaf, holds, if_pos rfl]
  | false =>
    rw [if_neg (by simp), if_neg (by simp), show tmOf p [(0, l), (2, 0)] = .un (.leaf 0 l) from tmOf_post (t := .un (.leaf 0 l)) (by simpa [Tm.ok] using hleaf), holds_un, holds, if_pos rfl]
    cases W.testBit k.toNat <;> cases W.testBit l.toNat <;> rfl
theorem kind_back_ok {p k l : Int} {t : Bool} (h : kindOk p k l t = true) : kindOk p l k t = true := by
  obtain ⟨h1, h4, h5, h6, h7, h8⟩ := kind_ok.1 h
  exact kind_ok.2 ⟨h1, h4, h7, h8, h5, h6⟩
theorem kind_back {p k l : Int} {t : Bool} (h : kindOk p k l t = true) : ctabN p (kindL l k t) = ctabN p (kindL k l t) := by
  unfold ctabN
  refine tabF_ext.2 fun W _ => ?_
  rw [kind_may h, kind_may (kind_back_ok h)]
  cases t <;> cases W.testBit k.toNat <;> cases W.testBit l.toNat <;> rfl
theorem kind_self {p k : Int} {t : Bool} (h : kindOk p k k t = true) : ctabN p (kindL k k t) = if t then 2 ^ (2 ^ p.toNat) - 1 else 0 := by
  cases t with
  | true =>
    rw [if_pos rfl]
    unfold ctabN
    rw [tabF_full]
    intro W _
    rw [kind_may h, if_pos rfl]; simp
  | false =>
    rw [if_neg (by simp)]
    unfold ctabN
    rw [tabF_none]
    intro W _
    rw [kind_may h, if_neg (by simp)]; simp
theorem half_table : ∀ P : Fin 5, 1 ≤ P.val → ∀ k : Fin 4, k.val < P.val → ∀ l : Fin 4, l.val < P.val → k.val ≠ l.val → ∀ t : Bool, 2 * heads (tabF (2 ^ P.val) fun W => if t then W.testBit k.val == W.testBit l.val else W.testBit k.val != W.testBit l.val) = 2 ^ P.val := by
  decide +kernel
theorem kind_half {p k l : Int} {t : Bool} (h : kindOk p k l t = true) (hne : k ≠ l) : 2 * heads (ctabN p (kindL k l t)) = 2 ^ p.toNat := by
  obtain ⟨h1, h4, h5, h6, h7, h8⟩ := kind_ok.1 h
  obtain ⟨P, rfl⟩ := Int.eq_ofNat_of_zero_le (show 0 ≤ p by omega)
  obtain ⟨K, rfl⟩ := Int.eq_ofNat_of_zero_le h5
  obtain ⟨L, rfl⟩ := Int.eq_ofNat_of_zero_le h7
  rw [ctabN_bits (fun W _ => kind_may h W)]
  rw [Int.toNat_natCast, Int.toNat_natCast, Int.toNat_natCast]
  exact half_table ⟨P, by omega⟩ (by show 1 ≤ P; omega) ⟨K, by omega⟩ (by show K < P; omega) ⟨L, by omega⟩ (by show L < P; omega) (by show K ≠ L; omega) t
/-! ### what is never, and what is always said -/
theorem kind_says_term {p k l : Int} {t : Bool} (h : kindOk p k l t = true) : termOk p (kindL k l t).2 = true := (claimOk_iff.1 h).2.2.1
theorem own_ok {p : Int} {c : Cl} (h : claimOk p c = true) (t : Bool) : kindOk p c.1 c.1 t = true := by
  obtain ⟨h1, h2, _, _⟩ := claimOk_iff.1 h
  obtain ⟨h3, h4⟩ := p_of_claim h
  exact kind_ok.2 ⟨h3, h4, h1, h2, h1, h2⟩
theorem holds_kind {p k l : Int} {t : Bool} (h : kindOk p k l t = true) (W : Nat) : holds W (tmOf p (kindL k l t).2) = if t then W.testBit l.toNat else !W.testBit l.toNat := by
  obtain ⟨h1, h4, h5, h6, h7, h8⟩ := kind_ok.1 h
  have hleaf : (Tm.leaf 0 l).ok p := by simp only [Tm.ok]; exact .inl ⟨by trivial, h7, h8⟩
  unfold kindL
  dsimp only
  cases t with
  | true => rw [if_pos rfl, if_pos rfl, show tmOf p [(0, l)] = .leaf 0 l from tmOf_post (t := .leaf 0 l) hleaf, holds, if_pos rfl]
  | false => rw [if_neg (by simp), if_neg (by simp), show tmOf p [(0, l), (2, 0)] = .un (.leaf 0 l) from tmOf_post (t := .un (.leaf 0 l)) (by simpa [Tm.ok] using hleaf), holds_un, holds, if_pos rfl]
theorem never_same {p : Int} {c : Cl} (h : claimOk p c = true) : sameV p c.2 (kindL c.1 c.1 false).2 = neverV p c := by
  have hk := own_ok h false
  have ht := (claimOk_iff.1 h).2.2.1
  have ht2 := kind_says_term hk
  unfold sameV
  rw [ht, ht2, neverV_yes h, Bool.true_and, Bool.true_and, decide_eq_decide, tabV_yes ht, tabV_yes ht2]
  unfold ctabN
  rw [tabF_none]
  constructor
  · intro e W hW
    have e' : tabF (2 ^ p.toNat) (fun w => holds w (tmOf p c.2)) = tabF (2 ^ p.toNat) (fun w => holds w (tmOf p (kindL c.1 c.1 false).2)) := by exact_mod_cast e
    have := tabF_ext.1 e' W hW
    try dsimp only at this
    rw [holds_kind hk, if_neg (by simp)] at this
    unfold mayT
    rw [this]
    cases W.testBit c.1.toNat <;> rfl
  · intro e
    have : tabF (2 ^ p.toNat) (fun w => holds w (tmOf p c.2)) = tabF (2 ^ p.toNat) (fun w => holds w (tmOf p (kindL c.1 c.1 false).2)) := by
      refine tabF_ext.2 fun W hW => ?_
      have := e W hW
      unfold mayT at this
      rw [holds_kind hk, if_neg (by simp)]
      revert this
      cases W.testBit c.1.toNat <;> cases holds W (tmOf p c.2) <;> simp
    rw [this]
theorem always_same {p : Int} {c : Cl} (h : claimOk p c = true) : sameV p c.2 (kindL c.1 c.1 true).2 = alwsV p c := by
  have hk := own_ok h true
  have ht := (claimOk_iff.1 h).2.2.1
  have ht2 := kind_says_term hk
  unfold sameV
  rw [ht, ht2, alwsV_yes h, Bool.true_and, Bool.true_and, decide_eq_decide, tabV_yes ht, tabV_yes ht2]
  unfold ctabN
  rw [tabF_full]
  constructor
  · intro e W hW
    have e' : tabF (2 ^ p.toNat) (fun w => holds w (tmOf p c.2)) = tabF (2 ^ p.toNat) (fun w => holds w (tmOf p (kindL c.1 c.1 true).2)) := by exact_mod_cast e
    have := tabF_ext.1 e' W hW
    try dsimp only at this
    rw [holds_kind hk, if_pos rfl] at this
    unfold mayT
    rw [this]
    cases W.testBit c.1.toNat <;> rfl
  · intro e
    have : tabF (2 ^ p.toNat) (fun w => holds w (tmOf p c.2)) = tabF (2 ^ p.toNat) (fun w => holds w (tmOf p (kindL c.1 c.1 true).2)) := by
      refine tabF_ext.2 fun W hW => ?_
      have := e W hW
      unfold mayT at this
      rw [holds_kind hk, if_pos rfl]
      revert this
      cases W.testBit c.1.toNat <;> cases holds W (tmOf p c.2) <;> simp
    rw [this]
/-! ### claims of claims -/
theorem nest_both {p k : Int} {c : Cl} (h : nestOk p k c = true) : claimOk p c = true ∧ claimOk p (nestL k c) = true := by simpa [nestOk] using h
theorem nest_may {p k : Int} {c : Cl} (h : nestOk p k c = true) (W : Nat) : mayT p (nestL k c) W = ((W.testBit k.toNat == W.testBit c.1.toNat) == holds W (tmOf p c.2)) := by
  obtain ⟨h1, _⟩ := nest_both h
  have e : mayT p (nestL k c) W = (W.testBit k.toNat == holds W (tmOf p (ctermL c))) := rfl
  rw [e, holds_cterm h1]
  unfold mayT
  cases W.testBit k.toNat <;> cases W.testBit c.1.toNat <;> cases holds W (tmOf p c.2) <;> rfl
end Go.Proofs.Ytobbbmcppmohoaa

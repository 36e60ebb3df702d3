/- Claims and stories: the mathematics, without code. -/
import Derived.Test.YtobbbmcppmohoaaTruthT
namespace Go.Proofs.Ytobbbmcppmohoaa
open Go.RowKit
/-- a claim: who makes it, and the marks of what it says -/
abbrev Cl := Int × List (Int × Int)
def claimOk (p : Int) (c : Cl) : Bool := decide (0 ≤ c.1) && (decide (c.1 < p) && (termOk p c.2 && decide (c.2.length ≤ 13)))
def mayT (p : Int) (c : Cl) (W : Nat) : Bool := W.testBit c.1.toNat == holds W (tmOf p c.2)
def mayV (p : Int) (c : Cl) (x : Int) : Bool := claimOk p c && (wOk p x && mayT p c x.toNat)
def ctermL (c : Cl) : List (Int × Int) := (0, c.1) :: c.2 ++ [(5, 0)]
def ctermV (p : Int) (c : Cl) : List (Int × Int) := if claimOk p c then ctermL c else []
def ctabN (p : Int) (c : Cl) : Nat := tabF (2 ^ p.toNat) (mayT p c)
def ctabV (p : Int) (c : Cl) : Int := if claimOk p c = true then (ctabN p c : Int) else -1
def denyL (c : Cl) : Cl := (c.1, c.2 ++ [(2, 0)])
def denyOk (p : Int) (c : Cl) : Bool := claimOk p c && claimOk p (denyL c)
def denyV (p : Int) (c : Cl) : Cl := if denyOk p c then denyL c else (0, [])
def storyOk (p : Int) (s : List Cl) : Bool := s.all (claimOk p) && (pOk p && decide (s.length ≤ 6))
def storyT (p : Int) (s : List Cl) (W : Nat) : Bool := s.all fun c => mayT p c W
def storyN (p : Int) (s : List Cl) : Nat := tabF (2 ^ p.toNat) (storyT p s)
def storyV (p : Int) (s : List Cl) : Int := if storyOk p s = true then (storyN p s : Int) else -1
theorem claimOk_iff {p : Int} {c : Cl} : claimOk p c = true ↔ 0 ≤ c.1 ∧ c.1 < p ∧ termOk p c.2 = true ∧ c.2.length ≤ 13 := by
  simp [claimOk]
theorem claimOk_no_who {p : Int} {c : Cl} (h : ¬ (0 ≤ c.1 ∧ c.1 < p)) : claimOk p c = false := by
  cases hc : claimOk p c with
  | false => rfl
  | true => obtain ⟨h1, h2, _⟩ := claimOk_iff.1 hc; exact absurd ⟨h1, h2⟩ h
theorem claimOk_no_term {p : Int} {c : Cl} (h : termOk p c.2 = false) : claimOk p c = false := by simp [claimOk, h]
theorem claimOk_at {p : Int} {c : Cl} (h1 : 0 ≤ c.1) (h2 : c.1 < p) (h : termOk p c.2 = true) : claimOk p c = decide (c.2.length ≤ 13) := by simp [claimOk, h, h1, h2]
theorem p_of_claim {p : Int} {c : Cl} (h : claimOk p c = true) : 1 ≤ p ∧ p ≤ 4 := p_of (claimOk_iff.1 h).2.2.1
theorem ctabV_yes {p : Int} {c : Cl} (h : claimOk p c = true) : ctabV p c = (ctabN p c : Int) := by simp [ctabV, h]
theorem ctabV_no {p : Int} {c : Cl} (h : claimOk p c = false) : ctabV p c = -1 := by simp [ctabV, h]
theorem storyV_yes {p : Int} {s : List Cl} (h : storyOk p s = true) : storyV p s = (storyN p s : Int) := by simp [storyV, h]
theorem storyV_no {p : Int} {s : List Cl} (h : storyOk p s = false) : storyV p s = -1 := by simp [storyV, h]
theorem mayV_no {p : Int} {c : Cl} {x : Int} (h : claimOk p c = false) : mayV p c x = false := by simp [mayV, h]
theorem mayV_no2 {p : Int} {c : Cl} {x : Int} (h : wOk p x = false) : mayV p c x = false := by simp [mayV, h]
theorem mayV_yes {p : Int} {c : Cl} {x : Int} (h : claimOk p c = true) (hx : wOk p x = true) : mayV p c x = mayT p c x.toNat := by simp [mayV, h, hx]
theorem ctabN_lt {p : Int} {c : Cl} (h1 : 1 ≤ p) (h4 : p ≤ 4) : ctabN p c < 65536 := by
  have h2 := tabF_lt (2 ^ p.toNat) (mayT p c)
  have h3 : 2 ^ p.toNat ≤ 16 := two16 (by omega)
  have h5 : 2 ^ (2 ^ p.toNat) ≤ 2 ^ 16 := Nat.pow_le_pow_right (by decide) h3
  unfold ctabN
  omega
/-! ### the term of a claim -/
theorem ctermL_post {p : Int} {c : Cl} (h : claimOk p c = true) : ctermL c = (Tm.bin 5 (.leaf 0 c.1) (tmOf p c.2)).post ∧ (Tm.bin 5 (.leaf 0 c.1) (tmOf p c.2)).ok p := by
  obtain ⟨h1, h2, h3, h4⟩ := claimOk_iff.1 h
  have ho := ok_of h3
  obtain ⟨hp, _, t, ht, hpost⟩ := termOk_iff.1 h3
  have e : (tmOf p c.2).post = c.2 := by rw [hpost, tmOf_post ht]
  refine ⟨?_, ?_⟩
  · unfold ctermL
    rw [show (Tm.bin 5 (.leaf 0 c.1) (tmOf p c.2)).post = [(0, c.1)] ++ (tmOf p c.2).post ++ [(5, 0)] from rfl, e]; rfl
  · simp only [Tm.ok]
    exact ⟨by decide, by decide, .inl ⟨by trivial, h1, h2⟩, ho⟩
theorem ctermL_ok {p : Int} {c : Cl} (h : claimOk p c = true) : termOk p (ctermL c) = true ∧ tmOf p (ctermL c) = .bin 5 (.leaf 0 c.1) (tmOf p c.2) ∧ (ctermL c).length = c.2.length + 2 := by
  obtain ⟨e, ho⟩ := ctermL_post h
  obtain ⟨h1, h2, h3, h4⟩ := claimOk_iff.1 h
  have hl : (ctermL c).length = c.2.length + 2 := by simp [ctermL]
  refine ⟨?_, ?_, hl⟩
  · rw [termOk_iff]
    exact ⟨p_of h3, by omega, _, ho, e⟩
  · rw [e, tmOf_post ho]
theorem holds_cterm {p : Int} {c : Cl} (h : claimOk p c = true) (W : Nat) : holds W (tmOf p (ctermL c)) = mayT p c W := by
  rw [(ctermL_ok h).2.1, holds_same, holds, if_pos rfl]; rfl
theorem holdsV_cterm {p : Int} {c : Cl} (h : claimOk p c = true) (x : Int) : holdsV p (ctermL c) x = mayV p c x := by
  unfold holdsV mayV
  rw [(ctermL_ok h).1, h, holds_cterm h]; simp
theorem tabV_cterm {p : Int} {c : Cl} (h : claimOk p c = true) : tabV p (ctermL c) = ctabV p c := by
  rw [tabV_yes (ctermL_ok h).1, ctabV_yes h]
  unfold ctabN
  rw [show (fun w => holds w (tmOf p (ctermL c))) = mayT p c from funext fun W => holds_cterm h W]
/-! ### denied claims -/
theorem denyL_may {p : Int} {c : Cl} (h : termOk p c.2 = true) (W : Nat) : mayT p (denyL c) W = !mayT p c W := by
  unfold mayT denyL
  dsimp only
  rw [tmOf_un h, holds_un]
  cases W.testBit c.1.toNat <;> cases holds W (tmOf p c.2) <;> rfl
theorem denyL_ok {p : Int} {c : Cl} (h : claimOk p c = true) : claimOk p (denyL c) = decide (c.2.length ≤ 12) := by
  obtain ⟨h1, h2, h3, h4⟩ := claimOk_iff.1 h
  have ht : termOk p (denyL c).2 = true := by
    unfold denyL; dsimp only
    rw [termOk_un h3]; simp; omega
  rw [claimOk_at (c := denyL c) h1 h2 ht, decide_eq_decide]
  simp [denyL]
theorem denyOk_at {p : Int} {c : Cl} (h : claimOk p c = true) : denyOk p c = decide (c.2.length ≤ 12) := by unfold denyOk; rw [h, denyL_ok h]; rfl
theorem denyOk_both {p : Int} {c : Cl} (h : denyOk p c = true) : claimOk p c = true ∧ claimOk p (denyL c) = true := by simpa [denyOk] using h
theorem mayV_deny {p : Int} {c : Cl} (h : denyOk p c = true) {x : Int} (hx : wOk p x = true) : mayV p (denyL c) x = !mayV p c x := by
  obtain ⟨h1, h2⟩ := denyOk_both h
  rw [mayV_yes h1 hx, mayV_yes h2 hx, denyL_may (claimOk_iff.1 h1).2.2.1]
theorem tabF_not (N : Nat) (f : Nat → Bool) : ((tabF N fun w => !f w : Nat) : Int) = 2 ^ N - 1 - (tabF N f : Int) := by
  have h := tabF_lt N f
  have e : tabF N (fun w => !f w) = 2 ^ N - 1 - tabF N f := by
    refine Nat.eq_of_testBit_eq fun j => ?_
    rw [show 2 ^ N - 1 - tabF N f = 2 ^ N - (tabF N f + 1) by omega, tabF_bit, Nat.testBit_two_pow_sub_succ h, tabF_bit]
    by_cases hj : j < N
    · simp [hj]
    · simp [hj]
  rw [e]
  have : ((2 ^ N : Nat) : Int) = 2 ^ N := by simp
  omega
theorem ctabV_deny {p : Int} {c : Cl} (h : denyOk p c = true) : ctabV p (denyL c) = 2 ^ (2 ^ p.toNat) - 1 - ctabV p c := by
  obtain ⟨h1, h2⟩ := denyOk_both h
  rw [ctabV_yes h1, ctabV_yes h2]
  unfold ctabN
  rw [← tabF_not]
  rw [show (mayT p (denyL c)) = fun W => !mayT p c W from funext fun W => denyL_may (claimOk_iff.1 h1).2.2.1 W]
theorem ctabV_deny2 {p : Int} {c : Cl} (h : denyOk p c = true) (h' : denyOk p (denyL c) = true) : ctabV p (denyL (denyL c)) = ctabV p c := by
  rw [ctabV_deny h', ctabV_deny h]; omega
/-! ### mirrored claims -/
theorem opw_bit {p : Int} {x k : Int} (hx : wOk p x = true) (hk : 0 ≤ k) (hkp : k < p) : (opw p x).toNat.testBit k.toNat = !x.toNat.testBit k.toNat := by
  obtain ⟨hp1, hp4, hx0, hxl⟩ := wOk_iff.1 hx
  obtain ⟨P, rfl⟩ := Int.eq_ofNat_of_zero_le (show 0 ≤ p by omega)
  obtain ⟨X, rfl⟩ := Int.eq_ofNat_of_zero_le hx0
  obtain ⟨K, rfl⟩ := Int.eq_ofNat_of_zero_le hk
  have hX : X < 2 ^ P := by have := hxl; rw [Int.toNat_natCast] at this; exact_mod_cast this
  have e : (opw P X).toNat = 2 ^ P - 1 - X := by
    unfold opw; rw [Int.toNat_natCast]
    have : ((2 ^ P : Nat) : Int) = 2 ^ P := by simp
    omega
  have h16 := two16 (p := P) (by omega)
  rw [e, Int.toNat_natCast, Int.toNat_natCast]
  exact (turn_bits ⟨P, by omega⟩ (by show 1 ≤ P; omega) ⟨X, by omega⟩ hX).1 ⟨K, by omega⟩ (by show K < P; omega)
theorem mayV_mir {p : Int} {c : Cl} (h : claimOk p c = true) (hm : mirOk p c.2 = true) (h' : claimOk p (c.1, mirV p c.2) = true) {x : Int} (hx : wOk p x = true) : mayV p (c.1, mirV p c.2) (opw p x) = !mayV p c x := by
  rw [mayV_yes h hx, mayV_yes h' (opw_ok hx)]
  obtain ⟨h1, h2, h3, _⟩ := claimOk_iff.1 h
  have hh := holdsV_mir hm hx
  unfold holdsV at hh
  rw [(mirT_term hm).2.1, h3, hx, opw_ok hx] at hh
  simp only [Bool.true_and] at hh
  unfold mayT
  dsimp only
  rw [hh, opw_bit hx h1 h2]
  cases x.toNat.testBit c.1.toNat <;> cases holds x.toNat (tmOf p c.2) <;> rfl
/-! ### stories -/
theorem tabF_and (N : Nat) (f g : Nat → Bool) : tabF N f &&& tabF N g = tabF N fun w => f w && g w := by
  refine Nat.eq_of_testBit_eq fun j => ?_
  rw [Nat.testBit_and, tabF_bit, tabF_bit, tabF_bit]
  cases decide (j < N) <;> simp
theorem storyOk_nil (p : Int) : storyOk p [] = pOk p := by simp [storyOk]
theorem storyOk_iff {p : Int} {s : List Cl} : storyOk p s = true ↔ (∀ c ∈ s, claimOk p c = true) ∧ pOk p = true ∧ s.length ≤ 6 := by simp [storyOk]
theorem storyOk_sub {p : Int} {s r : List Cl} (h : storyOk p s = true) (hs : r.length ≤ s.length) (hm : ∀ c ∈ r, c ∈ s) : storyOk p r = true := by
  obtain ⟨h1, h2, h3⟩ := storyOk_iff.1 h
  exact storyOk_iff.2 ⟨fun c hc => h1 c (hm c hc), h2, by omega⟩
theorem storyN_nil (p : Int) : storyN p [] = 2 ^ (2 ^ p.toNat) - 1 := by
  unfold storyN
  rw [tabF_full]
  intro w _
  rfl
theorem storyT_snoc (p : Int) (s : List Cl) (c : Cl) (W : Nat) : storyT p (s ++ [c]) W = (storyT p s W && mayT p c W) := by simp [storyT]
theorem storyN_snoc (p : Int) (s : List Cl) (c : Cl) : storyN p (s ++ [c]) = storyN p s &&& ctabN p c := by
  unfold storyN ctabN
  rw [tabF_and]
  congr 1
  funext W
  exact storyT_snoc p s c W
theorem storyN_ext {p : Int} {s r : List Cl} (h : ∀ c, c ∈ s ↔ c ∈ r) : storyN p s = storyN p r := by
  unfold storyN
  congr 1
  funext W
  unfold storyT
  rw [Bool.eq_iff_iff, List.all_eq_true, List.all_eq_true]
  exact ⟨fun hs c hc => hs c ((h c).2 hc), fun hr c hc => hr c ((h c).1 hc)⟩
theorem storyN_lt {p : Int} {s : List Cl} (h1 : 1 ≤ p) (h4 : p ≤ 4) : storyN p s < 65536 := by
  have h2 := tabF_lt (2 ^ p.toNat) (storyT p s)
  have h3 : 2 ^ p.toNat ≤ 16 := two16 (by omega)
  have h5 : 2 ^ (2 ^ p.toNat) ≤ 2 ^ 16 := Nat.pow_le_pow_right (by decide) h3
  unfold storyN
  omega
/-- two claims by one person -/
theorem two_claims {p : Int} {a b : List (Int × Int)} (ha : claimOk p (0, a) = true) (hb : claimOk p (0, b) = true) (_hs : termOk p (a ++ b ++ [(5, 0)]) = true) : (storyN p [(0, a), (0, b)] : Nat) = ctabN p (0, a) &&& tabN p (a ++ b ++ [(5, 0)]) := by
  unfold storyN ctabN tabN
  rw [tabF_and]
  congr 1
  funext W
  rw [tmOf_bin (by omega) (claimOk_iff.1 ha).2.2.1 (claimOk_iff.1 hb).2.2.1, holds_same]
  unfold storyT mayT
  simp only [List.all_cons, List.all_nil, Bool.and_true]
  cases W.testBit (Int.toNat 0) <;> cases holds W (tmOf p a) <;> cases holds W (tmOf p b) <;> rfl
/-- to be of the same kind -/
theorem own_kind {p k l : Int} (h : claimOk p (k, [(0, k), (0, l), (5, 0)]) = true) (hl : 0 ≤ l ∧ l < p) : ctabV p (k, [(0, k), (0, l), (5, 0)]) = tabV p [(0, l)] := by
  obtain ⟨h1, h2, h3, _⟩ := claimOk_iff.1 h
  dsimp only at h1 h2
  have hp := p_of h3
  have ok0 : ∀ z : Int, 0 ≤ z → z < p → (Tm.leaf 0 z).ok p := fun z h0 hz => by simp only [Tm.ok]; exact .inl ⟨by trivial, h0, hz⟩
  have hk : tmOf p [(0, k), (0, l), (5, 0)] = .bin 5 (.leaf 0 k) (.leaf 0 l) := tmOf_post (t := .bin 5 (.leaf 0 k) (.leaf 0 l)) (by simp only [Tm.ok]; exact ⟨by decide, by decide, .inl ⟨by trivial, h1, h2⟩, .inl ⟨by trivial, hl.1, hl.2⟩⟩)
  have hl2 : tmOf p [(0, l)] = .leaf 0 l := tmOf_post (t := .leaf 0 l) (ok0 l hl.1 hl.2)
  have htl : termOk p [(0, l)] = true := termOk_iff.2 ⟨hp, by simp, .leaf 0 l, ok0 l hl.1 hl.2, rfl⟩
  rw [ctabV_yes h, tabV_yes htl]
  unfold ctabN
  congr 2
  funext W
  unfold mayT
  dsimp only
  rw [hk, hl2, holds_same, holds, holds, if_pos rfl, if_pos rfl]
  cases W.testBit k.toNat <;> cases W.testBit l.toNat <;> rfl
/-! ### mirrored claims and stories -/
theorem mirror_tab {p : Int} {c : Cl} (h : claimOk p c = true) (hm : mirOk p c.2 = true) (h' : claimOk p (c.1, mirV p c.2) = true) : opt p (ctabV p (c.1, mirV p c.2)) = ((tabF (2 ^ p.toNat) fun W => !mayT p c W : Nat) : Int) := by
  obtain ⟨hp1, hp4⟩ := p_of_claim h
  obtain ⟨P, rfl⟩ := Int.eq_ofNat_of_zero_le (show 0 ≤ p by omega)
  have hlt := tabF_lt (2 ^ P) (mayT (P : Int) (c.1, mirV P c.2))
  have htok : tOk (P : Int) (ctabN (P : Int) (c.1, mirV P c.2)) = true := by
    refine tOk_iff.2 ⟨hp1, hp4, by omega, ?_⟩
    unfold ctabN
    rw [Int.toNat_natCast]
    exact_mod_cast hlt
  rw [ctabV_yes h', opt_yes htok]
  congr 1
  unfold ctabN
  rw [Int.toNat_natCast]
  refine (tabF_turned _ _ _ (fun w hw => ?_)).symm
  have hx : wOk (P : Int) w = true := wOk_iff.2 ⟨hp1, hp4, by omega, by rw [Int.toNat_natCast]; exact_mod_cast hw⟩
  have hh := mayV_mir h hm h' hx
  have hpos := Nat.two_pow_pos P
  have e : opw (P : Int) w = ((2 ^ P - 1 - w : Nat) : Int) := by
    unfold opw
    rw [Int.toNat_natCast]
    have : ((2 ^ P : Nat) : Int) = 2 ^ P := by simp
    omega
  rw [mayV_yes h hx, mayV_yes h' (opw_ok hx), e, Int.toNat_natCast, Int.toNat_natCast] at hh
  have hx2 : wOk (P : Int) ((2 ^ P - 1 - w : Nat) : Int) = true := by rw [← e]; exact opw_ok hx
  have hw' : 2 ^ P - 1 - w < 2 ^ P := by omega
  have hh2 := mayV_mir h hm h' hx2
  have e2 : opw (P : Int) ((2 ^ P - 1 - w : Nat) : Int) = (w : Int) := by
    unfold opw
    rw [Int.toNat_natCast]
    have : ((2 ^ P : Nat) : Int) = 2 ^ P := by simp
    omega
  rw [mayV_yes h hx2, mayV_yes h' (opw_ok hx2), e2, Int.toNat_natCast, Int.toNat_natCast] at hh2
  rw [hh2]
theorem mirror_story {p : Int} {c : Cl} (h : claimOk p c = true) (hm : mirOk p c.2 = true) (h' : claimOk p (c.1, mirV p c.2) = true) :
    ∃ n m : Nat, ctabV p c = (n : Int) ∧ opt p (ctabV p (c.1, mirV p c.2)) = (m : Int) ∧ n < 65536 ∧ m < 65536 ∧ n &&& m = 0 ∧ n ||| m = 2 ^ (2 ^ p.toNat) - 1 := by
  obtain ⟨hp1, hp4⟩ := p_of_claim h
  have h2 := tabF_lt (2 ^ p.toNat) (fun W => !mayT p c W)
  have h3 : 2 ^ p.toNat ≤ 16 := two16 (by omega)
  have h5 : 2 ^ (2 ^ p.toNat) ≤ 2 ^ 16 := Nat.pow_le_pow_right (by decide) h3
  refine ⟨ctabN p c, tabF (2 ^ p.toNat) (fun W => !mayT p c W), ctabV_yes h, mirror_tab h hm h', ctabN_lt hp1 hp4, by omega, ?_, ?_⟩
  · refine Nat.eq_of_testBit_eq fun j => ?_
    unfold ctabN
    rw [Nat.testBit_and, tabF_bit, tabF_bit, Nat.zero_testBit]
    cases decide (j < 2 ^ p.toNat) <;> cases mayT p c j <;> rfl
  · refine Nat.eq_of_testBit_eq fun j => ?_
    unfold ctabN
    rw [Nat.testBit_or, tabF_bit, tabF_bit, Nat.testBit_two_pow_sub_one]
    cases decide (j < 2 ^ p.toNat) <;> cases mayT p c j <;> rfl
end Go.Proofs.Ytobbbmcppmohoaa

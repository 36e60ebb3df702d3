/- Spies: the mathematics, without code. -/
import Derived.Test.YtobbbmcppmohoaaOneM
namespace Go.Proofs.Ytobbbmcppmohoaa
open Go.RowKit
def kindsOk (zs : List Int) : Bool := zs.all (fun z => decide (0 ≤ z ∧ z ≤ 2)) && decide (1 ≤ zs.length ∧ zs.length ≤ 4)
/-- the world of all tellers of kinds -/
def kwN (zs : List Int) : Nat := tabF zs.length fun k => decide (zs.getD k 0 = 1)
def kwV (zs : List Int) : Int := if kindsOk zs then (kwN zs : Int) else -1
def saysT (zs : List Int) (c : Cl) : Bool := decide (zs.getD c.1.toNat 0 = 2) || mayT zs.length c (kwN zs)
def saysV (zs : List Int) (c : Cl) : Bool := kindsOk zs && (claimOk zs.length c && saysT zs c)
def spyT (zs : List Int) (s : List Cl) : Bool := s.all (saysT zs)
def spyV (zs : List Int) (s : List Cl) : Bool := kindsOk zs && (storyOk zs.length s && spyT zs s)
/-- the kinds of a number, the person 0 counting least -/
def kRow (p n : Nat) : List Int := (List.range p).map fun k => ((n / 3 ^ k % 3 : Nat) : Int)
/-- how many spies there are among kinds -/
def spiesN (zs : List Int) : Nat := zs.countP fun z => decide (z = 2)
/-- the least number of spies among the rows of the numbers below n, by which F holds, and at most p -/
def fewF (p : Nat) (F : List Int → Bool) : Nat → Nat
  | 0 => p
  | n + 1 => if F (kRow p n) then min (fewF p F n) (spiesN (kRow p n)) else fewF p F n
def fewV (p : Int) (s : List Cl) : Int := if storyOk p s then (fewF p.toNat (fun zs => spyV zs s) (3 ^ p.toNat) : Int) else -1
/-- how many rows of the numbers below n have so many spies, and F holds -/
def rowsF (p : Nat) (F : List Int → Bool) (q : Nat) : Nat → Nat
  | 0 => 0
  | n + 1 => rowsF p F q n + if spiesN (kRow p n) = q ∧ F (kRow p n) = true then 1 else 0
def rowsV (p : Int) (s : List Cl) (q : Int) : Int := if storyOk p s && decide (0 ≤ q ∧ q ≤ p) then (rowsF p.toNat (fun zs => spyV zs s) q.toNat (3 ^ p.toNat) : Int) else -1
theorem kindsOk_iff {zs : List Int} : kindsOk zs = true ↔ (∀ z ∈ zs, 0 ≤ z ∧ z ≤ 2) ∧ 1 ≤ zs.length ∧ zs.length ≤ 4 := by simp [kindsOk]
theorem kwN_lt (zs : List Int) : kwN zs < 2 ^ zs.length := tabF_lt _ _
theorem kwN_bit {zs : List Int} {k : Nat} (hk : k < zs.length) : (kwN zs).testBit k = decide (zs.getD k 0 = 1) := by
  unfold kwN
  rw [tabF_bit, decide_eq_true hk, Bool.true_and]
theorem kRow_len (p n : Nat) : (kRow p n).length = p := by simp [kRow]
theorem kRow_get {p n k : Nat} (hk : k < p) : (kRow p n).getD k 0 = ((n / 3 ^ k % 3 : Nat) : Int) := by
  simp [kRow, List.getD, hk]
theorem kRow_mem {p n : Nat} {z : Int} (h : z ∈ kRow p n) : 0 ≤ z ∧ z ≤ 2 := by
  obtain ⟨k, _, rfl⟩ := List.mem_map.1 h
  omega
theorem kRow_ok {p n : Nat} (h1 : 1 ≤ p) (h4 : p ≤ 4) : kindsOk (kRow p n) = true :=
  kindsOk_iff.2 ⟨fun _ hz => kRow_mem hz, by rw [kRow_len]; omega, by rw [kRow_len]; omega⟩
theorem kRow_succ (p n : Nat) : kRow (p + 1) n = kRow p n ++ [((n / 3 ^ p % 3 : Nat) : Int)] := by
  unfold kRow
  rw [List.range_succ, List.map_append]; rfl
/-- each row of kinds is that of a number -/
theorem kRow_all : ∀ (zs : List Int), (∀ z ∈ zs, 0 ≤ z ∧ z ≤ 2) → ∃ n, n < 3 ^ zs.length ∧ kRow zs.length n = zs := by
  intro zs
  induction zs with
  | nil => intro _; exact ⟨0, by decide, rfl⟩
  | cons z r ih =>
    intro h
    obtain ⟨n, hn, hr⟩ := ih (fun y hy => h y (by simp [hy]))
    obtain ⟨h0, h2⟩ := h z (by simp)
    obtain ⟨Z, rfl⟩ := Int.eq_ofNat_of_zero_le h0
    refine ⟨Z + 3 * n, by rw [List.length_cons, Nat.pow_succ]; omega, ?_⟩
    rw [List.length_cons]
    unfold kRow
    rw [List.range_succ_eq_map, List.map_cons, List.map_map]
    refine congr (congrArg List.cons ?_) ?_
    · rw [Nat.pow_zero, Nat.div_one]; omega
    · refine Eq.trans ?_ hr
      unfold kRow
      refine List.map_congr_left fun k _ => ?_
      show (((Z + 3 * n) / 3 ^ (k + 1) % 3 : Nat) : Int) = _
      rw [Nat.pow_succ, Nat.mul_comm (3 ^ k) 3, ← Nat.div_div_eq_div_mul, show (Z + 3 * n) / 3 = n by omega]
/-! ### kinds without spies, all spies, one spy more -/
theorem spies_zero {zs : List Int} : spiesN zs = 0 ↔ ∀ z ∈ zs, z ≠ 2 := by
  unfold spiesN
  rw [List.countP_eq_zero]
  simp
theorem getD_mem_or (zs : List Int) (k : Nat) : zs.getD k 0 ∈ zs ∨ zs.getD k 0 = 0 := by
  by_cases h : k < zs.length
  · left
    have e : zs.getD k 0 = zs[k] := by simp [List.getD, h]
    rw [e]; exact List.getElem_mem h
  · right
    simp [List.getD, show zs.length ≤ k by omega]
theorem says_none {zs : List Int} (h : spiesN zs = 0) (c : Cl) : saysT zs c = mayT zs.length c (kwN zs) := by
  unfold saysT
  have h2 : zs.getD c.1.toNat 0 ≠ 2 := by
    rcases getD_mem_or zs c.1.toNat with hm | hm
    · exact spies_zero.1 h _ hm
    · rw [hm]; decide
  rw [decide_eq_false h2, Bool.false_or]
theorem spy_none {zs : List Int} (h : spiesN zs = 0) (s : List Cl) : spyT zs s = storyT zs.length s (kwN zs) := by
  unfold spyT storyT
  congr 1
  funext c
  exact says_none h c
theorem says_spy {zs : List Int} {c : Cl} (h : zs.getD c.1.toNat 0 = 2) : saysT zs c = true := by unfold saysT; rw [decide_eq_true h]; rfl
theorem says_else {zs : List Int} {c : Cl} (h : zs.getD c.1.toNat 0 ≠ 2) : saysT zs c = mayT zs.length c (kwN zs) := by unfold saysT; rw [decide_eq_false h]; rfl
theorem storyOk_mem {p : Int} {s : List Cl} (h : storyOk p s = true) {c : Cl} (hc : c ∈ s) : claimOk p c = true := (storyOk_iff.1 h).1 c hc
theorem story_who {p : Int} {s : List Cl} (h : storyOk p s = true) {c : Cl} (hc : c ∈ s) : 0 ≤ c.1 ∧ c.1 < p := by
  obtain ⟨h1, h2, _⟩ := claimOk_iff.1 (storyOk_mem h hc)
  exact ⟨h1, h2⟩
theorem rep_get {p k : Nat} (hk : k < p) : (List.replicate p (2 : Int)).getD k 0 = 2 := by simp [List.getD, hk]
theorem spy_full {p : Nat} {s : List Cl} (h : storyOk (p : Int) s = true) : spyT (List.replicate p 2) s = true := by
  unfold spyT
  rw [List.all_eq_true]
  intro c hc
  obtain ⟨h1, h2⟩ := story_who h hc
  exact says_spy (rep_get (by omega))
theorem full_ok {p : Nat} (h1 : 1 ≤ p) (h4 : p ≤ 4) : kindsOk (List.replicate p 2) = true :=
  kindsOk_iff.2 ⟨fun z hz => by rw [List.eq_of_mem_replicate hz]; decide, by simpa using h1, by simpa using h4⟩
theorem spyV_full {p : Nat} {s : List Cl} (h1 : 1 ≤ p) (h4 : p ≤ 4) (h : storyOk (p : Int) s = true) : spyV (List.replicate p 2) s = true := by
  unfold spyV
  rw [full_ok h1 h4, List.length_replicate, h, spy_full h]; rfl
theorem set_getD (zs : List Int) (k j : Nat) (v : Int) (hk : k < zs.length) : (zs.set k v).getD j 0 = if j = k then v else zs.getD j 0 := by
  unfold List.getD
  rw [List.getElem?_set]
  by_cases hj : k = j
  · subst hj; simp [hk]
  · rw [if_neg hj, if_neg (fun e => hj e.symm)]
theorem kwN_ext {xs ys : List Int} (hl : xs.length = ys.length) (h : ∀ k, k < xs.length → (xs.getD k 0 = 1 ↔ ys.getD k 0 = 1)) : kwN xs = kwN ys := by
  unfold kwN
  rw [← hl, tabF_ext]
  intro j hj
  rw [decide_eq_decide]
  exact h j hj
theorem kwN_set {zs : List Int} {k : Nat} (hk : k < zs.length) (h0 : zs.getD k 0 = 0) : kwN (zs.set k 2) = kwN zs := by
  refine kwN_ext (by simp) fun j _ => ?_
  rw [set_getD _ _ _ _ hk]
  by_cases hj : j = k
  · subst hj; rw [if_pos rfl, h0]; decide
  · rw [if_neg hj]
theorem spy_better {zs : List Int} {s : List Cl} {k : Nat} (hk : k < zs.length) (h0 : zs.getD k 0 = 0) (h : spyT zs s = true) : spyT (zs.set k 2) s = true := by
  unfold spyT at h ⊢
  rw [List.all_eq_true] at h ⊢
  intro c hc
  have hs := h c hc
  by_cases hw : c.1.toNat = k
  · refine says_spy ?_
    rw [set_getD _ _ _ _ hk, if_pos hw]
  · unfold saysT at hs ⊢
    rw [set_getD _ _ _ _ hk, if_neg hw, kwN_set hk h0, List.length_set]
    exact hs
theorem set_ok {zs : List Int} {k : Nat} (h : kindsOk zs = true) : kindsOk (zs.set k 2) = true := by
  obtain ⟨h1, h2, h3⟩ := kindsOk_iff.1 h
  refine kindsOk_iff.2 ⟨fun z hz => ?_, by simpa using h2, by simpa using h3⟩
  rcases List.mem_or_eq_of_mem_set hz with hz | rfl
  · exact h1 z hz
  · decide
theorem spyV_parts {zs : List Int} {s : List Cl} (h : spyV zs s = true) : kindsOk zs = true ∧ storyOk zs.length s = true ∧ spyT zs s = true := by
  unfold spyV at h
  simpa using h
theorem spyV_of {zs : List Int} {s : List Cl} (h1 : kindsOk zs = true) (h2 : storyOk zs.length s = true) : spyV zs s = spyT zs s := by unfold spyV; rw [h1, h2]; rfl
theorem spyV_better {zs : List Int} {s : List Cl} {k : Nat} (hk : k < zs.length) (h0 : zs.getD k 0 = 0) (h : spyV zs s = true) : spyV (zs.set k 2) s = true := by
  obtain ⟨h1, h2, h3⟩ := spyV_parts h
  rw [spyV_of (set_ok h1) (by rw [List.length_set]; exact h2)]
  exact spy_better hk h0 h3
/-! ### kinds and worlds -/
def kOfW (p X : Nat) : List Int := (List.range p).map fun k => if X.testBit k then 1 else 0
theorem kOfW_len (p X : Nat) : (kOfW p X).length = p := by simp [kOfW]
theorem kOfW_get {p X k : Nat} (hk : k < p) : (kOfW p X).getD k 0 = if X.testBit k then 1 else 0 := by simp [kOfW, List.getD, hk]
theorem kOfW_mem {p X : Nat} {z : Int} (h : z ∈ kOfW p X) : z = 0 ∨ z = 1 := by
  obtain ⟨k, _, rfl⟩ := List.mem_map.1 h
  cases X.testBit k
  · left; rfl
  · right; rfl
theorem kOfW_kw {p X : Nat} (hX : X < 2 ^ p) : kwN (kOfW p X) = X := by
  refine Nat.eq_of_testBit_eq fun j => ?_
  unfold kwN
  rw [kOfW_len, tabF_bit]
  by_cases hj : j < p
  · rw [decide_eq_true hj, Bool.true_and, kOfW_get hj]
    cases X.testBit j <;> decide
  · rw [decide_eq_false hj, Bool.false_and]
    exact (Nat.testBit_lt_two_pow (Nat.lt_of_lt_of_le hX (Nat.pow_le_pow_right (by decide) (by omega)))).symm
theorem kOfW_none (p X : Nat) : spiesN (kOfW p X) = 0 := spies_zero.2 fun z hz => by rcases kOfW_mem hz with rfl | rfl <;> decide
/-! ### fewest spies -/
theorem few_le_p (p : Nat) (F : List Int → Bool) : ∀ N, fewF p F N ≤ p
  | 0 => Nat.le_refl _
  | n + 1 => by
    unfold fewF
    split
    · exact Nat.le_trans (Nat.min_le_left _ _) (few_le_p p F n)
    · exact few_le_p p F n
theorem few_le {p : Nat} {F : List Int → Bool} : ∀ {N n : Nat}, n < N → F (kRow p n) = true → fewF p F N ≤ spiesN (kRow p n)
  | 0, n, h, _ => absurd h (Nat.not_lt_zero _)
  | N + 1, n, h, hF => by
    unfold fewF
    by_cases hn : n = N
    · subst hn
      rw [if_pos hF]
      exact Nat.min_le_right _ _
    · have := few_le (N := N) (show n < N by omega) hF
      split
      · exact Nat.le_trans (Nat.min_le_left _ _) this
      · exact this
theorem few_mem (p : Nat) (F : List Int → Bool) : ∀ N, fewF p F N = p ∨ ∃ n, n < N ∧ F (kRow p n) = true ∧ spiesN (kRow p n) = fewF p F N
  | 0 => .inl rfl
  | N + 1 => by
    have ih := few_mem p F N
    unfold fewF
    by_cases hF : F (kRow p N) = true
    · rw [if_pos hF]
      by_cases hle : spiesN (kRow p N) ≤ fewF p F N
      · right; exact ⟨N, by omega, hF, by omega⟩
      · rw [Nat.min_eq_left (by omega)]
        rcases ih with h | ⟨n, h1, h2, h3⟩
        · exact .inl h
        · exact .inr ⟨n, by omega, h2, h3⟩
    · rw [if_neg hF]
      rcases ih with h | ⟨n, h1, h2, h3⟩
      · exact .inl h
      · exact .inr ⟨n, by omega, h2, h3⟩
theorem few_mono {p : Nat} {F G : List Int → Bool} (h : ∀ zs, F zs = true → G zs = true) : ∀ N, fewF p G N ≤ fewF p F N
  | 0 => Nat.le_refl _
  | N + 1 => by
    have ih := few_mono (p := p) h N
    unfold fewF
    by_cases hF : F (kRow p N) = true
    · rw [if_pos hF, if_pos (h _ hF)]; omega
    · rw [if_neg hF]
      split <;> omega
theorem spies_full (p : Nat) : spiesN (List.replicate p (2 : Int)) = p := by
  unfold spiesN
  rw [List.countP_replicate]; simp
theorem kRow_find {p : Nat} {zs : List Int} (hl : zs.length = p) (h : ∀ z ∈ zs, 0 ≤ z ∧ z ≤ 2) : ∃ n, n < 3 ^ p ∧ kRow p n = zs := by
  obtain ⟨n, h1, h2⟩ := kRow_all zs h
  rw [hl] at h1 h2
  exact ⟨n, h1, h2⟩
section
variable {p : Nat} {s : List Cl}
theorem few_wit (h1 : 1 ≤ p) (h4 : p ≤ 4) (h : storyOk (p : Int) s = true) : ∃ n, n < 3 ^ p ∧ spyV (kRow p n) s = true ∧ spiesN (kRow p n) = fewF p (fun zs => spyV zs s) (3 ^ p) := by
  rcases few_mem p (fun zs => spyV zs s) (3 ^ p) with he | he
  · obtain ⟨n, hn, hr⟩ := kRow_find (p := p) (zs := List.replicate p 2) (by simp) (fun z hz => by rw [List.eq_of_mem_replicate hz]; decide)
    exact ⟨n, hn, by rw [hr]; exact spyV_full h1 h4 h, by rw [hr, spies_full, he]⟩
  · exact he
theorem few_at {zs : List Int} (hl : zs.length = p) (hk : ∀ z ∈ zs, 0 ≤ z ∧ z ≤ 2) (hs : spyV zs s = true) : fewF p (fun zs => spyV zs s) (3 ^ p) ≤ spiesN zs := by
  obtain ⟨n, hn, hr⟩ := kRow_find hl hk
  have := few_le (p := p) (F := fun zs => spyV zs s) hn (by rw [hr]; exact hs)
  rw [hr] at this
  exact this
/-- no spies are needed exactly if there is a world -/
theorem few_zero (h1 : 1 ≤ p) (h4 : p ≤ 4) (h : storyOk (p : Int) s = true) : fewF p (fun zs => spyV zs s) (3 ^ p) = 0 ↔ storyN (p : Int) s ≠ 0 := by
  constructor
  · intro h0 hn
    obtain ⟨n, hn3, hs, hq⟩ := few_wit h1 h4 h
    rw [h0] at hq
    have ht := (spyV_parts hs).2.2
    rw [spy_none hq, kRow_len] at ht
    have := storyN_zero.1 hn (kwN (kRow p n)) (by have := kwN_lt (kRow p n); rw [kRow_len] at this; rw [Int.toNat_natCast]; exact this)
    rw [ht] at this
    cases this
  · intro hn
    have hex : ∃ X, X < 2 ^ p ∧ storyT (p : Int) s X = true := by
      refine Classical.byContradiction fun hne => hn (storyN_zero.2 fun x hx => ?_)
      rw [Int.toNat_natCast] at hx
      cases ht : storyT (p : Int) s x with
      | false => rfl
      | true => exact absurd ⟨x, hx, ht⟩ hne
    obtain ⟨X, hX, ht⟩ := hex
    have hle := few_at (p := p) (s := s) (zs := kOfW p X) (kOfW_len p X) (fun z hz => by rcases kOfW_mem hz with rfl | rfl <;> decide) (by
      rw [spyV_of (kindsOk_iff.2 ⟨fun z hz => by rcases kOfW_mem hz with rfl | rfl <;> decide, by rw [kOfW_len]; exact h1, by rw [kOfW_len]; exact h4⟩) (by rw [kOfW_len]; exact h)]
      rw [spy_none (kOfW_none p X), kOfW_len, kOfW_kw hX]
      exact ht)
    rw [kOfW_none] at hle
    omega
/-- of how many people there is a claim -/
def whoN (p : Nat) (s : List Cl) : Nat := (List.range p).countP fun (k : Nat) => s.any fun c => decide (c.1 = (k : Int))
theorem few_who (h1 : 1 ≤ p) (h4 : p ≤ 4) (h : storyOk (p : Int) s = true) : fewF p (fun zs => spyV zs s) (3 ^ p) ≤ whoN p s := by
  obtain ⟨zs, hzs⟩ : ∃ zs : List Int, zs = (List.range p).map fun (k : Nat) => if s.any (fun c => decide (c.1 = (k : Int))) then (2 : Int) else 0 := ⟨_, rfl⟩
  have hl : zs.length = p := by rw [hzs]; simp
  have hm : ∀ z ∈ zs, z = 0 ∨ z = 2 := by
    intro z hz
    rw [hzs] at hz
    obtain ⟨k, _, rfl⟩ := List.mem_map.1 hz
    cases s.any (fun c => decide (c.1 = (k : Int)))
    · left; rfl
    · right; rfl
  have hm2 : ∀ z ∈ zs, 0 ≤ z ∧ z ≤ 2 := fun z hz => by rcases hm z hz with rfl | rfl <;> decide
  have hsp : spiesN zs = whoN p s := by
    rw [hzs]
    unfold spiesN whoN
    rw [List.countP_map]
    congr 1
    funext k
    exact (show ∀ b : Bool, decide ((if b = true then (2 : Int) else 0) = 2) = b by decide) _
  rw [← hsp]
  refine few_at hl hm2 ?_
  rw [spyV_of (kindsOk_iff.2 ⟨hm2, by omega, by omega⟩) (by rw [hl]; exact h)]
  unfold spyT
  rw [List.all_eq_true]
  intro c hc
  obtain ⟨hw0, hwp⟩ := story_who h hc
  obtain ⟨K, hK⟩ := Int.eq_ofNat_of_zero_le hw0
  refine says_spy ?_
  have hKp : K < p := by omega
  rw [hK, Int.toNat_natCast, hzs]
  have hany : s.any (fun c => decide (c.1 = (K : Int))) = true := List.any_eq_true.2 ⟨c, hc, by simpa using hK⟩
  have eg : ∀ f : Nat → Int, ((List.range p).map f).getD K 0 = f K := fun f => by simp [List.getD, hKp]
  rw [eg, hany]; rfl
theorem spyV_sub {zs : List Int} {r : List Cl} (hr : r.Sublist s) (h : spyV zs s = true) : spyV zs r = true := by
  obtain ⟨h1, h2, h3⟩ := spyV_parts h
  obtain ⟨h4, h5, h6⟩ := storyOk_iff.1 h2
  rw [spyV_of h1 (storyOk_iff.2 ⟨fun c hc => h4 c (hr.subset hc), h5, Nat.le_trans hr.length_le h6⟩)]
  unfold spyT at h3 ⊢
  rw [List.all_eq_true] at h3 ⊢
  exact fun c hc => h3 c (hr.subset hc)
theorem few_less (r : List Cl) (hr : r.Sublist s) : fewF p (fun zs => spyV zs r) (3 ^ p) ≤ fewF p (fun zs => spyV zs s) (3 ^ p) :=
  few_mono (fun _ h => spyV_sub hr h) _
/-! ### rows of kinds -/
theorem rowsF_filter (p : Nat) (F : List Int → Bool) (q : Nat) : ∀ N, rowsF p F q N = ((List.range N).filter fun n => decide (spiesN (kRow p n) = q) && F (kRow p n)).length
  | 0 => rfl
  | N + 1 => by
    rw [rowsF, rowsF_filter p F q N, List.range_succ, List.filter_append, List.length_append]
    congr 1
    by_cases h : spiesN (kRow p N) = q ∧ F (kRow p N) = true
    · rw [if_pos h]
      simp [h.1, h.2]
    · rw [if_neg h]
      have : (decide (spiesN (kRow p N) = q) && F (kRow p N)) = false := by
        cases hF : F (kRow p N) with
        | false => simp
        | true =>
          rw [Bool.and_true, decide_eq_false_iff_not]
          exact fun e => h ⟨e, hF⟩
      simp [this]
theorem rows_none (h1 : 1 ≤ p) (h4 : p ≤ 4) : ((List.range (3 ^ p)).filter fun n => decide (spiesN (kRow p n) = 0)).map (fun n => kwN (kRow p n)) = List.range (2 ^ p) := by
  have h : p = 1 ∨ p = 2 ∨ p = 3 ∨ p = 4 := by omega
  rcases h with rfl | rfl | rfl | rfl <;> decide +kernel
theorem rows_all (h1 : 1 ≤ p) (h4 : p ≤ 4) : ((List.range (3 ^ p)).filter fun n => decide (spiesN (kRow p n) = p)) = [3 ^ p - 1] ∧ kRow p (3 ^ p - 1) = List.replicate p 2 := by
  have h : p = 1 ∨ p = 2 ∨ p = 3 ∨ p = 4 := by omega
  rcases h with rfl | rfl | rfl | rfl <;> decide +kernel
theorem rows_worlds (h1 : 1 ≤ p) (h4 : p ≤ 4) (h : storyOk (p : Int) s = true) : rowsF p (fun zs => spyV zs s) 0 (3 ^ p) = (swl (p : Int) s).length := by
  rw [rowsF_filter, swl_yes h, Int.toNat_natCast]
  have e : (fun n => decide (spiesN (kRow p n) = 0) && spyV (kRow p n) s) = fun n => ((fun x => storyT (p : Int) s x) ∘ fun n => kwN (kRow p n)) n && decide (spiesN (kRow p n) = 0) := by
    funext n
    by_cases h0 : spiesN (kRow p n) = 0
    · rw [spyV_of (kRow_ok h1 h4) (by rw [kRow_len]; exact h), spy_none h0, kRow_len, decide_eq_true h0, Bool.true_and, Bool.and_true]; rfl
    · rw [decide_eq_false h0, Bool.false_and, Bool.and_false]
  rw [e, ← List.filter_filter]
  rw [← List.length_map (f := fun n => kwN (kRow p n)), ← List.filter_map, rows_none h1 h4]
  unfold wl
  congr 1
  refine List.filter_congr fun x hx => ?_
  unfold storyN
  rw [tabF_bit, Int.toNat_natCast, decide_eq_true (List.mem_range.1 hx), Bool.true_and]
theorem rows_spies (h1 : 1 ≤ p) (h4 : p ≤ 4) (h : storyOk (p : Int) s = true) : rowsF p (fun zs => spyV zs s) p (3 ^ p) = 1 := by
  obtain ⟨ha, hb⟩ := rows_all h1 h4
  rw [rowsF_filter]
  have e : (fun n => decide (spiesN (kRow p n) = p) && spyV (kRow p n) s) = fun n => spyV (kRow p n) s && decide (spiesN (kRow p n) = p) := by
    funext n; rw [Bool.and_comm]
  rw [e, ← List.filter_filter, ha]
  simp [hb, spyV_full h1 h4 h]
theorem rows_few (h1 : 1 ≤ p) (h4 : p ≤ 4) (h : storyOk (p : Int) s = true) (q : Nat) : (q < fewF p (fun zs => spyV zs s) (3 ^ p) → rowsF p (fun zs => spyV zs s) q (3 ^ p) = 0) ∧ (q = fewF p (fun zs => spyV zs s) (3 ^ p) → 0 < rowsF p (fun zs => spyV zs s) q (3 ^ p)) := by
  rw [rowsF_filter]
  constructor
  · intro hq
    rw [List.length_eq_zero_iff, List.filter_eq_nil_iff]
    intro n hn hb
    rw [Bool.and_eq_true, decide_eq_true_eq] at hb
    have := few_le (p := p) (F := fun zs => spyV zs s) (List.mem_range.1 hn) hb.2
    omega
  · intro hq
    obtain ⟨n, hn, hs, he⟩ := few_wit h1 h4 h
    exact List.length_pos_of_mem (List.mem_filter.2 ⟨List.mem_range.2 hn, by rw [Bool.and_eq_true, decide_eq_true_eq]; exact ⟨by omega, hs⟩⟩)
end
/-! ### the laws' own counts -/
theorem kinds_rev (zs : List Int) : kindsOk zs.reverse = kindsOk zs := by
  rw [Bool.eq_iff_iff, kindsOk_iff, kindsOk_iff]
  simp
theorem kwN_other (zs : List Int) : kwN (zs.map fun z => if z = 2 then 0 else z) = kwN zs := by
  refine kwN_ext (by simp) fun k hk => ?_
  rw [List.length_map] at hk
  have e : (zs.map fun z => if z = 2 then 0 else z).getD k 0 = if zs.getD k 0 = 2 then 0 else zs.getD k 0 := by simp [List.getD, hk]
  rw [e]
  by_cases h : zs.getD k 0 = 2
  · rw [if_pos h, h]; decide
  · rw [if_neg h]
theorem other_ok {zs : List Int} (h : kindsOk zs = true) : kindsOk (zs.map fun z => if z = 2 then 0 else z) = true := by
  obtain ⟨h1, h2, h3⟩ := kindsOk_iff.1 h
  refine kindsOk_iff.2 ⟨fun z hz => ?_, by simpa using h2, by simpa using h3⟩
  obtain ⟨y, hy, rfl⟩ := List.mem_map.1 hz
  have := h1 y hy
  split <;> omega
end Go.Proofs.Ytobbbmcppmohoaa

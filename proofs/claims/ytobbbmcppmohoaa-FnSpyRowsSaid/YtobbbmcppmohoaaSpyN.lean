/- Spies: the mathematics of the laws, without code. -/
import Derived.Test.YtobbbmcppmohoaaSpyM
import Derived.Test.YtobbbmcppmohoaaHeads
import Derived.Test.YtobbbmcppmohoaaOddM
namespace Go.Proofs.Ytobbbmcppmohoaa
open Go.RowKit
theorem range_getD (zs : List Int) : (List.range zs.length).map (fun k => zs.getD k 0) = zs := by
  refine List.ext_getElem (by simp) fun j h1 h2 => ?_
  simp [List.getD, h2]
/-- how many tell the truth in the world of kinds -/
theorem kw_heads {zs : List Int} (h : zs.length ≤ 32) : heads (kwN zs) = zs.countP fun z => decide (z = 1) := by
  rw [← wl_heads9 zs.length _ h (kwN_lt zs)]
  have e : wl (kwN zs) zs.length = (List.range zs.length).filter fun k => decide (zs.getD k 0 = 1) := by
    unfold wl
    exact List.filter_congr fun k hk => kwN_bit (List.mem_range.1 hk)
  rw [e, ← List.countP_eq_length_filter]
  have h2 : (zs.countP fun z => decide (z = 1)) = ((List.range zs.length).map fun k => zs.getD k 0).countP fun z => decide (z = 1) := by rw [range_getD]
  rw [h2, List.countP_map]; rfl
/-- how many tellers there are among the first kinds -/
def tlK (zs : List Int) (k : Nat) : Nat := (zs.take k).countP fun z => decide (z = 1)
theorem tlK_succ {zs : List Int} {k : Nat} (hk : k < zs.length) : tlK zs (k + 1) = if zs.getD k 0 = 1 then tlK zs k + 1 else tlK zs k := by
  have e : zs.getD k 0 = zs[k] := by simp [List.getD, hk]
  unfold tlK
  rw [List.take_succ_eq_append_getElem hk, List.countP_append, e]
  by_cases h : zs[k] = 1
  · rw [if_pos h]; simp [h]
  · rw [if_neg h]; simp [h]
theorem tlK_le (zs : List Int) (k : Nat) : tlK zs k ≤ k := by
  unfold tlK
  have := List.countP_le_length (p := fun z => decide (z = (1 : Int))) (l := zs.take k)
  rw [List.length_take] at this
  omega
theorem tlK_all {zs : List Int} (h : zs.length ≤ 32) : (tlK zs zs.length : Int) = (heads (kwN zs) : Int) := by
  unfold tlK
  rw [List.take_length, kw_heads h]
theorem kw_wOk {zs : List Int} (h : kindsOk zs = true) : wOk (zs.length : Int) (kwN zs : Int) = true := by
  obtain ⟨_, h2, h3⟩ := kindsOk_iff.1 h
  refine wOk_iff.2 ⟨by omega, by omega, by omega, ?_⟩
  rw [Int.toNat_natCast]
  exact_mod_cast kwN_lt zs
/-- kinds with a liar for each spy -/
def otherL (zs : List Int) : List Int := zs.map fun z => if z = 2 then 0 else z
theorem otherL_succ {zs : List Int} {k : Nat} (hk : k < zs.length) : otherL (zs.take (k + 1)) = otherL (zs.take k) ++ [if zs.getD k 0 = 2 then 0 else zs.getD k 0] := by
  have e : zs.getD k 0 = zs[k] := by simp [List.getD, hk]
  unfold otherL
  rw [List.take_succ_eq_append_getElem hk, List.map_append, e]; rfl
theorem otherL_len (zs : List Int) : (otherL zs).length = zs.length := by simp [otherL]
theorem other_kwV {zs : List Int} (h : kindsOk zs = true) : kwV (otherL zs) = (kwN zs : Int) := by
  unfold kwV
  rw [show kindsOk (otherL zs) = true from other_ok h, show kwN (otherL zs) = kwN zs from kwN_other zs]; rfl
/-- spies say each claim, and deny it -/
theorem says_law9 {zs : List Int} {k : Int} {ms : List (Int × Int)} (hk : kindsOk zs = true) (hc : claimOk zs.length (k, ms) = true) : ∃ K : Nat, k = K ∧ K < zs.length ∧
    (zs.getD K 0 = 2 → saysV zs (k, ms) = true ∧ (denyOk zs.length (k, ms) = true → saysV zs (denyV zs.length (k, ms)) = true)) ∧
    (zs.getD K 0 ≠ 2 → (denyOk zs.length (k, ms) = true → saysV zs (denyV zs.length (k, ms)) = !saysV zs (k, ms)) ∧ mayV zs.length (k, ms) (kwV zs) = saysV zs (k, ms)) := by
  obtain ⟨h0, h1, ht, _⟩ := claimOk_iff.1 hc
  obtain ⟨K, hK⟩ := Int.eq_ofNat_of_zero_le h0
  dsimp only at hK
  have hyes : ∀ c, claimOk zs.length c = true → saysV zs c = saysT zs c := fun c h => by unfold saysV; rw [hk, h]; rfl
  have hd : denyOk zs.length (k, ms) = true → denyV zs.length (k, ms) = denyL (k, ms) := fun h => by unfold denyV; rw [h]; rfl
  have hw1 : (k, ms).1.toNat = K := by show k.toNat = K; omega
  have hw2 : (denyL (k, ms)).1.toNat = K := hw1
  refine ⟨K, hK, by dsimp only at h1; omega, fun h2 => ⟨?_, fun ho => ?_⟩, fun h2 => ⟨fun ho => ?_, ?_⟩⟩
  · rw [hyes _ hc]; exact says_spy (by rw [hw1]; exact h2)
  · rw [hd ho, hyes _ (denyOk_both ho).2]; exact says_spy (by rw [hw2]; exact h2)
  · rw [hd ho, hyes _ (denyOk_both ho).2, hyes _ hc, says_else (by rw [hw2]; exact h2), says_else (by rw [hw1]; exact h2)]
    exact denyL_may ht _
  · rw [hyes _ hc, says_else (by rw [hw1]; exact h2)]
    unfold kwV
    rw [hk, if_pos rfl, mayV_yes hc (kw_wOk hk), Int.toNat_natCast]
/-- without spies kinds are worlds -/
theorem spy_law9 {zs : List Int} {s : List Cl} (hk : kindsOk zs = true) (hs : storyOk zs.length s = true) (h0 : spiesN zs = 0) : spyV zs s = decide ((kwN zs : Int) ∈ nums (swl zs.length s)) := by
  rw [spyV_of hk hs, spy_none h0, Bool.eq_iff_iff, decide_eq_true_eq]
  unfold nums
  rw [List.mem_map]
  constructor
  · intro h
    exact ⟨kwN zs, (swl_mem hs).2 ⟨by rw [Int.toNat_natCast]; exact kwN_lt zs, h⟩, rfl⟩
  · rintro ⟨x, hx, he⟩
    obtain rfl : x = kwN zs := by omega
    exact ((swl_mem hs).1 hx).2
theorem spyV_fullZ {zs : List Int} {s : List Cl} (hk : kindsOk zs = true) (hs : storyOk zs.length s = true) : spyV (List.replicate zs.length 2) s = true := by
  obtain ⟨_, h2, h3⟩ := kindsOk_iff.1 hk
  exact spyV_full h2 h3 hs
theorem few_range {p : Int} {s : List Cl} : (storyOk p s = false ∧ fewV p s = -1) ∨ ∃ P : Nat, p = P ∧ 1 ≤ P ∧ P ≤ 4 ∧ storyOk p s = true ∧ ∃ f : Nat, fewV p s = f ∧ f ≤ P ∧ f = fewF P (fun zs => spyV zs s) (3 ^ P) := by
  cases h : storyOk p s with
  | false => exact .inl ⟨by trivial, by unfold fewV; rw [h]; rfl⟩
  | true =>
    right
    obtain ⟨_, hp, _⟩ := storyOk_iff.1 h
    obtain ⟨h1, h4⟩ : 1 ≤ p ∧ p ≤ 4 := by simpa [pOk] using hp
    obtain ⟨P, rfl⟩ := Int.eq_ofNat_of_zero_le (show 0 ≤ p by omega)
    refine ⟨P, rfl, by omega, by omega, by trivial, fewF P (fun zs => spyV zs s) (3 ^ P), by unfold fewV; rw [h, Int.toNat_natCast]; rfl, few_le_p _ _ _, rfl⟩
/-- the counts of rows of kinds -/
theorem rows_law9 {p q : Int} {s : List Cl} : rowsV p s q = -1 ∨ ∃ (R f : Nat), rowsV p s q = R ∧ 0 ≤ q ∧ q ≤ p ∧ 1 ≤ p ∧ p ≤ 4 ∧ fewV p s = f ∧ rowsV p s 0 = ((swl p s).length : Int) ∧ rowsV p s p = 1 ∧ (q < f → R = 0) ∧ (q = f → 0 < R) := by
  cases h : storyOk p s && decide (0 ≤ q ∧ q ≤ p) with
  | false => left; unfold rowsV; rw [h]; rfl
  | true =>
    right
    rw [Bool.and_eq_true, decide_eq_true_eq] at h
    obtain ⟨hs, hq0, hqp⟩ := h
    obtain ⟨_, hp, _⟩ := storyOk_iff.1 hs
    obtain ⟨h1, h4⟩ : 1 ≤ p ∧ p ≤ 4 := by simpa [pOk] using hp
    obtain ⟨P, rfl⟩ := Int.eq_ofNat_of_zero_le (show 0 ≤ p by omega)
    obtain ⟨Q, rfl⟩ := Int.eq_ofNat_of_zero_le hq0
    have hrv : ∀ j : Nat, j ≤ P → rowsV (P : Int) s (j : Int) = (rowsF P (fun zs => spyV zs s) j (3 ^ P) : Int) := fun j hj => by
      unfold rowsV
      rw [hs, decide_eq_true (show (0 : Int) ≤ (j : Int) ∧ (j : Int) ≤ (P : Int) by omega), Int.toNat_natCast, Int.toNat_natCast]; rfl
    obtain ⟨hf1, hf2⟩ := rows_few (p := P) (s := s) (by omega) (by omega) hs Q
    refine ⟨rowsF P (fun zs => spyV zs s) Q (3 ^ P), fewF P (fun zs => spyV zs s) (3 ^ P), hrv Q (by omega), by omega, by omega, by omega, by omega, by unfold fewV; rw [hs, Int.toNat_natCast]; rfl, ?_, ?_, fun hq => hf1 (by omega), fun hq => hf2 (by omega)⟩
    · have := hrv 0 (by omega)
      rw [rows_worlds (by omega) (by omega) hs] at this
      exact this
    · rw [hrv P (Nat.le_refl _), rows_spies (by omega) (by omega) hs]; rfl
theorem swl_wlp9 (p : Int) (s : List Cl) : wlp p (storyV p s) = swl p s := rfl
end Go.Proofs.Ytobbbmcppmohoaa

/- The first laws of chapter 1: tables. Each answers true, whatever the code. No condition. -/
import Derived.Test.YtmcdfbjmbelklaaLawsA
import Derived.Test.YtmcdfbjmbelklaaDrawT
namespace Go.Proofs.Ytmcdfbjmbelklaa
open Go.RowKit
attribute [local irreducible] heads turned tabOf wl


set_option maxHeartbeats 1000000 in
theorem drawOppositeTable (a : Value) (n : Nat) (w : World) (hr : RdBytes w w.heap.size a n) :
    Calls Try.prog 16 #[a] w (Out2 PT w) := by
  go_enter Try.func16, Try.ntmps16
  go_wp2_with fail
  refine (l20Open _ _ _ hr).mono ?_
  rintro e w1 ⟨b, rfl, hb, hrd, hbel⟩
  go_wp2_with fail
  refine (l20Table _ _ _ hrd (by omega)).mono ?_
  rintro e w2 ⟨p, x, hP, rfl, hrd2, hg2⟩
  have hB := below_of_grown hbel hb hg2
  clear hrd hrd2 hg2 hbel
  have HP := Lib.hid hP; clear hP
  go_wp2
  go_ret2
  exact ⟨_, _, HP.out, rfl, hB⟩


/-! ### facts of listed tables -/
theorem nums_getD {l : List Nat} {j : Nat} (hj : j < l.length) : (nums l).getD j 0 = ((l[j] : Nat) : Int) := by simp [nums, List.getD, hj]
theorem wl_asc (T n : Nat) : ∀ j, j + 1 < (nums (wl T n)).length → (nums (wl T n)).getD j 0 < (nums (wl T n)).getD (j + 1) 0 := by
  intro j hj
  rw [nums_length] at hj
  rw [nums_getD (show j < (wl T n).length by omega), nums_getD hj]
  have hp : (wl T n).Pairwise (· < ·) := by unfold wl; exact List.Pairwise.filter _ List.pairwise_lt_range
  have := List.pairwise_iff_getElem.1 hp j (j + 1) (by omega) hj (by omega)
  omega
theorem wl_wOk {p : Int} {T N : Nat} (h1 : 1 ≤ p) (h2 : p ≤ 4) (hN : (N : Int) = 2 ^ p.toNat) : ∀ j, j < (nums (wl T N)).length → wOk p ((nums (wl T N)).getD j 0) = true := by
  intro j hj
  rw [nums_length] at hj
  rw [nums_getD hj]
  have := (wl_mem.1 (List.getElem_mem hj)).1
  exact wOk_of h1 h2 hN (by omega) (by omega)
theorem nums_toNat (l : List Nat) : (nums l).map Int.toNat = l := by
  induction l with
  | nil => rfl
  | cons a r ih => simp only [nums, List.map_cons, List.map_map] at ih ⊢; simp [Function.comp_def]
theorem tow_wl {p : Int} {T N : Nat} (h1 : 1 ≤ p) (h2 : p ≤ 4) (hN : (N : Int) = 2 ^ p.toNat) (hT : T < 2 ^ N) : tow p (nums (wl T N)) = (T : Int) := by
  rw [tow_yes (by simp [pOk]; omega) (wl_wOk h1 h2 hN), nums_toNat, tabOf_wl hT]
theorem tOk_ltN {p : Int} {T N : Nat} (h : tOk p T = true) (hN : (N : Int) = 2 ^ p.toNat) : T < 2 ^ N := by
  obtain ⟨h1, h2, h3, h4⟩ := tOk_iff.1 h
  have hNN : N = 2 ^ p.toNat := by have : ((2 ^ p.toNat : Nat) : Int) = 2 ^ p.toNat := by simp
                                   omega
  subst hNN
  exact_mod_cast h4
end Go.Proofs.Ytmcdfbjmbelklaa




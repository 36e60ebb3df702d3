/- Contracts of the reference's truth of terms: a part in a world, the table of a term. -/
import Derived.Test.YtobbbmcppmohoaaStarts
import Derived.Test.YtobbbmcppmohoaaTruth
import Derived.Test.YtobbbmcppmohoaaDrawP
import Derived.Test.YtobbbmcppmohoaaTables
import Derived.Deep.RegionHeld3
namespace Go.Proofs.Ytobbbmcppmohoaa
open Go.RowKit
/-- the reference tells of this term, wherever its marks stand, whether it holds -/
def HoldAt (f : Nat) (t : Tm) : Prop := ∀ (W : Nat) (B : Nat) (v : Value) (w : World), W < 16 → RdMarks w B v t.post → B ≤ w.heap.size →
  Calls Try.prog f #[v, .int .i64 W] w fun e w' => e = .returned (.bool (holds W t)) ∧ Below w.heap.size w w'
theorem heads_small {W : Nat} (h : W < 16) : heads W < 16 := Nat.lt_of_le_of_lt (heads_le W) h
theorem holds_leaf0 (W : Nat) (x : Int) : holds W (.leaf 0 x) = W.testBit x.toNat := by rw [holds, if_pos rfl]
theorem holds_leaf1 (W : Nat) (x : Int) : holds W (.leaf 1 x) = decide (x ≤ (heads W : Int)) := by rw [holds, if_neg (by decide)]
theorem below_undrewS {B : Nat} {w w' : World} (h : Below B w.drew w') : Below B w w' := ⟨h.os, h.tape, h.output, h.size, h.block⟩
theorem below_undrewN {B : Nat} {w w' : World} {n : Nat} (h : Below B (w.drewN n) w') : Below B w w' := ⟨h.os, h.tape, h.output, h.size, h.block⟩
theorem tb_of {W : Nat} (hW : W < 16) : ((W : Int) % 2 == 1) = W.testBit 0 ∧ ((W : Int) / 2 % 2 == 1) = W.testBit 1 ∧ ((W : Int) / 4 % 2 == 1) = W.testBit 2 ∧ ((W : Int) / 8 % 2 == 1) = W.testBit 3 := by
  have h : ∀ V : Fin 16, ((V.val : Int) % 2 == 1) = V.val.testBit 0 ∧ ((V.val : Int) / 2 % 2 == 1) = V.val.testBit 1 ∧ ((V.val : Int) / 4 % 2 == 1) = V.val.testBit 2 ∧ ((V.val : Int) / 8 % 2 == 1) = V.val.testBit 3 := by decide +kernel
  exact h ⟨W, hW⟩
attribute [local irreducible] holds heads
set_option maxRecDepth 100000 in
set_option maxHeartbeats 1000000 in
theorem l3Holds_leaf {p : Int} (hp : p ≤ 4) (k x : Int) (ht : (Tm.leaf k x).ok p) : HoldAt 88 (.leaf k x) := by
  intro W B v w hW hr hB
  obtain ⟨b, off, cap, rfl, hl, hm, hb⟩ := hr.form (by simp [Tm.post])
  obtain ⟨hc1, hc2⟩ := hr.at (j := 0) (m := (k, x)) (by simp [Tm.post]) rfl
  rw [Nat.zero_mul, Nat.add_zero] at hc1 hc2
  dsimp only at hc1 hc2
  simp only [Tm.post, List.length_singleton] at hl
  have hN : (Tm.leaf k x).post.length = 1 := rfl
  rw [hN]
  clear hN hr
  unfold maxLen at hm
  simp only [Tm.ok] at ht
  rcases ht with ⟨rfl, h0, h1⟩ | ⟨rfl, h0, h1⟩
  · have hx : x = 0 ∨ x = 1 ∨ x = 2 ∨ x = 3 := by omega
    clear h0 h1
    rw [holds_leaf0]
    rcases hx with rfl | rfl | rfl | rfl
    all_goals
      have Htb := Lib.hid (tb_of hW)
      go_enter Try.func88, Try.ntmps88
      go_wp2
      go_ret
      exact ⟨by first | exact ret_bool Htb.out.1 | exact ret_bool Htb.out.2.1 | exact ret_bool Htb.out.2.2.1 | exact ret_bool Htb.out.2.2.2, Below.refl _ _⟩
  · rw [holds_leaf1]
    have hhd := heads_small hW
    have Hd := Lib.hid (specHeads W (by omega))
    generalize heads W = H at *
    go_enter Try.func88, Try.ntmps88
    go_wp2_with fail
    go_region_held3 (fun w' => w'.cell? ⟨b, off + 1, none⟩ = some (.int .i64 x))
      (first | go_keep | assumption)
      (first
        | (go_at_call 98
           (with_reducible refine (Hd.out _).mono ?_)
           rintro e w' ⟨rfl, rfl⟩)
        | fail)
    go_wp2
    go_ret
    exact ⟨by first | rfl | exact ret_bool (decide_eq_decide.2 (by omega)), by first | exact Below.refl _ _ | exact below_undrewS (Below.refl _ _) | exact below_undrewN (Below.refl _ _) | exact ⟨rfl, rfl, rfl, Nat.le_refl _, fun _ _ => rfl⟩⟩
set_option maxRecDepth 100000 in
set_option maxHeartbeats 1000000 in
theorem l3Holds_un {p : Int} (t : Tm) (_ht : t.ok p) (hlen : t.post.length ≤ 14) (ih : HoldAt 88 t) : HoldAt 88 (.un t) := by
  intro W B v w hW hr hB
  have hpl : (Tm.un t).post.length = t.post.length + 1 := by simp [Tm.post]
  obtain ⟨b, off, cap, rfl, hl, hm, hb⟩ := hr.form (by omega)
  obtain ⟨hc1, hc2⟩ := hr.at (j := t.post.length) (m := (2, 0)) (by omega) (by simp [Tm.post, List.getD_eq_getElem?_getD])
  have hra := hr.cut (pre := []) (sub := t.post) (suf := [(2, 0)]) (i := 0) (by simp [Tm.post]) rfl rfl
  rw [Nat.zero_mul, Nat.add_zero, Nat.sub_zero] at hra
  have hpos := post_pos t
  dsimp only at hc1 hc2
  rw [holds_un]
  rw [hpl] at *
  clear hpl hr
  unfold maxLen at hm
  have Ih := Lib.hid (fun w h hB => ih W B (.slice (some ⟨b, off, none⟩) t.post.length cap) w hW h hB)
  clear ih
  have Hra := Lib.hid hra; clear hra
  generalize holds W t = o at *
  generalize t.post.length = L at *
  obtain ⟨N, hN⟩ : ∃ N, N = L + 1 := ⟨_, rfl⟩
  rw [← hN] at hl ⊢
  have hi1 : IntKind.i64.wrap ((N : Int) - 1) = (L : Int) := by rw [IntWalk.i64_in _ (by omega)]; omega
  have hi2 : (0 : Int) ≤ (L : Int) := by omega
  have hi3 : (L : Int) < (N : Int) := by omega
  have hi4 : L < N := by omega
  have hi5 : (L : Int) ≤ (cap : Int) := by omega
  have hi6 : L ≤ cap := by omega
  have hi7 : ¬ cap = 0 := by omega
  have HN := Lib.hid hN; clear hN
  go_enter Try.func88, Try.ntmps88
  go_wp2_with fail
  refine (Ih.out _ Hra.out hB).mono ?_
  rintro e w' ⟨rfl, hb1⟩
  have Hb := Lib.hid hb1; clear hb1
  go_wp2
  go_ret
  exact ⟨rfl, Hb.out⟩
set_option maxRecDepth 100000 in
set_option maxHeartbeats 2000000 in
theorem l3Holds_bin {p : Int} (k : Int) (t u : Tm) (hk : 3 ≤ k ∧ k ≤ 5) (hu : u.ok p) (hlen : t.post.length + u.post.length ≤ 14) (iht : HoldAt 88 t) (ihu : HoldAt 88 u) : HoldAt 88 (.bin k t u) := by
  intro W B v w hW hr hB
  have hpl : (Tm.bin k t u).post.length = t.post.length + u.post.length + 1 := by simp [Tm.post]; omega
  obtain ⟨b, off, cap, rfl, hl, hm, hb⟩ := hr.form (by omega)
  have hpost : (Tm.bin k t u).post = t.post ++ u.post ++ [(k, 0)] := rfl
  obtain ⟨hc1, hc2⟩ := hr.at (j := t.post.length + u.post.length) (m := (k, 0)) (by omega) (by
    rw [hpost, List.getD_eq_getElem?_getD, List.getElem?_append_right (by simp), List.length_append, Nat.sub_self]; rfl)
  obtain ⟨S, hS⟩ : ∃ S, S = t.post.length + u.post.length := ⟨_, rfl⟩
  have hra := hr.cut (pre := []) (sub := t.post) (suf := u.post ++ [(k, 0)]) (i := 0) (by rw [hpost]; simp) rfl rfl
  have hrb := hr.cut (pre := t.post) (sub := u.post) (suf := [(k, 0)]) (i := t.post.length) (m := S - t.post.length) (by rw [hpost]) rfl (by omega)
  rw [Nat.zero_mul, Nat.add_zero, Nat.sub_zero] at hra
  have hpos := post_pos t
  have hpos2 := post_pos u
  dsimp only at hc1 hc2
  obtain ⟨E, hE⟩ : ∃ E : Int, (t.post.length : Int) + u.post.length - 1 = E := ⟨_, rfl⟩
  have hst := fun W' (h : RdMarks W' B (.slice (some ⟨b, off, none⟩) (Tm.bin k t u).post.length cap) (Tm.bin k t u).post) => specStarts (Tm.bin k t u).post t.post.length u.post.length (nd u) E hE (nd_zero u) (nd_all hu) (fun j hj => by
    have h1 := nd_step hu hj
    rw [hpost, List.getD_eq_getElem?_getD, List.getElem?_append_left (by simp only [List.length_append]; omega), List.getElem?_append_right (by omega), Nat.add_sub_cancel_left, ← List.getD_eq_getElem?_getD]
    exact h1) (by omega) (by omega) B _ W' h
  have Hha := Lib.hid (fun w' h hB => iht W B (.slice (some ⟨b, off, none⟩) t.post.length cap) w' hW h hB)
  have Hhb := Lib.hid (fun w' h hB => ihu W B (.slice (some ⟨b, off + t.post.length * 2, none⟩) (S - t.post.length) (cap - t.post.length)) w' hW h hB)
  clear iht ihu hpost
  have Hh : Hid (holds W (.bin k t u) = if k = 3 then holds W t && holds W u else if k = 4 then holds W t || holds W u else holds W t == holds W u) := by unfold Hid; rw [holds]
  generalize holds W (.bin k t u) = o at *
  generalize holds W t = oa at *
  generalize holds W u = ob at *
  have Hr := Lib.hid hr; clear hr
  rw [hpl] at *
  clear hpl
  unfold maxLen at hm
  have Hst := Lib.hid hst; clear hst
  have Hra := Lib.hid hra; clear hra
  have Hrb := Lib.hid hrb; clear hrb
  rw [← hS] at hl hc1 hc2 Hst Hr hlen ⊢
  generalize t.post.length = LA at *
  generalize u.post.length = LB at *
  obtain ⟨N, hN⟩ : ∃ N, N = S + 1 := ⟨_, rfl⟩
  rw [← hN] at hl Hst Hr ⊢
  have hi1 : IntKind.i64.wrap ((N : Int) - 1) = (S : Int) := by rw [IntWalk.i64_in _ (by omega)]; omega
  have hj1 : IntKind.i64.wrap ((S : Int) - 1) = E := by rw [IntWalk.i64_in _ (by omega)]; omega
  have hi2 : (0 : Int) ≤ (S : Int) := by omega
  have hi3 : (S : Int) < (N : Int) := by omega
  have hi4 : S < N := by omega
  have hi5 : (S : Int) ≤ (cap : Int) := by omega
  have hi6 : S ≤ cap := by omega
  have hi7 : ¬ cap = 0 := by omega
  have hi8 : ¬ cap = LA := by omega
  have hi9 : (0 : Int) ≤ (LA : Int) := by omega
  have hia : (LA : Int) ≤ (S : Int) := by omega
  have hib : LA ≤ S := by omega
  have hic : (LA : Int) ≤ (cap : Int) := by omega
  have hid : LA ≤ cap := by omega
  have HN := Lib.hid hN; clear hN
  have HS := Lib.hid hS; clear hS
  have HE := Lib.hid hE; clear hE
  clear hpos hpos2 hlen hl
  have hk0 : (k == 0) = false := by rw [beq_eq_false_iff_ne]; omega
  have hk1 : (k == 1) = false := by rw [beq_eq_false_iff_ne]; omega
  have hk2 : (k == 2) = false := by rw [beq_eq_false_iff_ne]; omega
  go_enter Try.func88, Try.ntmps88
  go_wp2_with fail
  refine (Hst.out _ Hr.out).mono ?_
  rintro e w' ⟨rfl, rfl⟩
  go_wp2_with fail
  refine (Hha.out _ Hra.out hB).mono ?_
  rintro e w5 ⟨rfl, hb5⟩
  have Hrb5 := Lib.hid (Hrb.out.below (fun q hq => hb5.block q (by omega)))
  have hB5 : B ≤ w5.heap.size := by have := hb5.size; omega
  have Hb5 := Lib.hid hb5
  have hc15 := (hb5.cell (p := ⟨b, off + S * 2, none⟩) (show b < _ by omega)).trans hc1
  clear hb5 hc1 hc2
  go_wp2_with fail
  refine (Hhb.out _ Hrb5.out hB5).mono ?_
  rintro e w6 ⟨rfl, hb6⟩
  have hc16 := (hb6.cell (p := ⟨b, off + S * 2, none⟩) (show b < _ by omega)).trans hc15
  have Hb6 := Lib.hid (Hb5.out.trans (hb6.mono Hb5.out.size))
  clear hb6 hc15
  have hk' : k = 3 ∨ k = 4 ∨ k = 5 := by omega
  clear hk hk0 hk1 hk2
  rcases hk' with rfl | rfl | rfl
  all_goals
    have Ho := Hh.out
    simp only [if_true, show ¬ (4 : Int) = 3 by decide, show ¬ (5 : Int) = 3 by decide, show ¬ (5 : Int) = 4 by decide, if_false] at Ho
    subst Ho
    cases oa <;> cases ob
    all_goals
      go_wp2
      go_ret
      exact ⟨rfl, Hb6.out⟩
theorem specHolds {p : Int} (hp : p ≤ 4) : ∀ t : Tm, t.ok p → t.post.length ≤ 15 → HoldAt 88 t
  | .leaf k x, h, _ => l3Holds_leaf hp k x h
  | .un t, h, hl => by
    have h' : t.ok p := by simpa only [Tm.ok] using h
    have hl' : t.post.length ≤ 14 := by simp [Tm.post] at hl; omega
    exact l3Holds_un t h' hl' (specHolds hp t h' (by omega))
  | .bin k a b, h, hl => by
    simp only [Tm.ok] at h
    obtain ⟨h3, h5, ha, hb⟩ := h
    have hl' : a.post.length + b.post.length ≤ 14 := by simp [Tm.post] at hl; omega
    exact l3Holds_bin k a b ⟨h3, h5⟩ hb hl' (specHolds hp a ha (by omega)) (specHolds hp b hb (by omega))
end Go.Proofs.Ytobbbmcppmohoaa

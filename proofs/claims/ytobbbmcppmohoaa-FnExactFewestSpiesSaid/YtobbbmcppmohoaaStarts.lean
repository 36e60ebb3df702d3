/- Where a part of a row of marks begins; parts of rows. -/
import Derived.Test.YtobbbmcppmohoaaMarksS
import Derived.IntWalk
namespace Go.Proofs.Ytobbbmcppmohoaa
open Go.RowKit

/-! ### how far a part reaches back -/
def dl (k : Int) : Int := if k ≤ 1 then -1 else if k = 2 then 0 else 1
def dsT (t : Tm) : List Int := t.post.reverse.map (fun m => dl m.1)
theorem dsT_un (t : Tm) : dsT (.un t) = 0 :: dsT t := by simp [dsT, Tm.post, dl]
theorem dsT_bin {k : Int} (a b : Tm) (hk : 3 ≤ k) : dsT (.bin k a b) = 1 :: (dsT b ++ dsT a) := by
  have h1 : ¬ k ≤ 1 := by omega
  have h2 : ¬ k = 2 := by omega
  simp [dsT, Tm.post, dl, h1, h2]
theorem dsT_len (t : Tm) : (dsT t).length = t.post.length := by simp [dsT]
theorem dsT_sum {p : Int} : ∀ t : Tm, t.ok p → (dsT t).sum = -1 ∧ ∀ j, j < (dsT t).length → 0 ≤ ((dsT t).take j).sum
  | .leaf k x, h => by
    have hk : k ≤ 1 := by simp only [Tm.ok] at h; omega
    have e : dsT (.leaf k x) = [-1] := by simp [dsT, Tm.post, dl, hk]
    rw [e]
    refine ⟨rfl, fun j hj => ?_⟩
    simp at hj
    subst hj
    simp
  | .un t, h => by
    obtain ⟨h1, h2⟩ := dsT_sum t (by simpa only [Tm.ok] using h)
    rw [dsT_un]
    refine ⟨by simp [h1], fun j hj => ?_⟩
    cases j with
    | zero => simp
    | succ j =>
      have := h2 j (by simp at hj; exact hj)
      simpa using this
  | .bin k a b, h => by
    simp only [Tm.ok] at h
    obtain ⟨hk, _, ha, hb⟩ := h
    obtain ⟨a1, a2⟩ := dsT_sum a ha
    obtain ⟨b1, b2⟩ := dsT_sum b hb
    rw [dsT_bin a b hk]
    refine ⟨by simp [a1, b1], fun j hj => ?_⟩
    cases j with
    | zero => simp
    | succ j =>
      simp at hj
      rw [List.take_succ_cons, List.sum_cons, List.take_append, List.sum_append]
      by_cases hjb : j < (dsT b).length
      · have := b2 j hjb
        rw [Nat.sub_eq_zero_of_le (by omega)]
        simp; omega
      · have := a2 (j - (dsT b).length) (by omega)
        rw [List.take_of_length_le (by omega), b1]
        omega
theorem dl_le (k : Int) : dl k ≤ 1 := by unfold dl; split <;> (try split) <;> omega
theorem sum_take_le : ∀ (l : List Int) (j : Nat), (∀ x ∈ l, x ≤ 1) → (l.take j).sum ≤ j
  | [], j, _ => by simp
  | x :: l, 0, _ => by simp
  | x :: l, j + 1, h => by
    have h1 := h x (by simp)
    have h2 := sum_take_le l j (fun y hy => h y (by simp [hy]))
    simp; omega
/-- the parts that are wanted once j marks have been passed, from the last one back -/
def nd (t : Tm) (j : Nat) : Int := 1 + ((dsT t).take j).sum
theorem nd_zero (t : Tm) : nd t 0 = 1 := by simp [nd]
theorem nd_all {p : Int} {t : Tm} (h : t.ok p) : nd t t.post.length = 0 := by
  obtain ⟨h1, _⟩ := dsT_sum t h
  unfold nd
  rw [List.take_of_length_le (by rw [dsT_len]; omega), h1]
  rfl
theorem nd_step {p : Int} {t : Tm} (h : t.ok p) {j : Nat} (hj : j < t.post.length) : 1 ≤ nd t j ∧ nd t j ≤ 1 + j ∧ nd t (j + 1) = nd t j + dl (t.post.getD (t.post.length - 1 - j) (0, 0)).1 := by
  obtain ⟨_, h2⟩ := dsT_sum t h
  have h3 := h2 j (by rw [dsT_len]; exact hj)
  have h4 := sum_take_le (dsT t) j (fun x hx => by
    simp only [dsT, List.mem_map] at hx
    obtain ⟨m, _, rfl⟩ := hx
    exact dl_le _)
  refine ⟨by unfold nd; omega, by unfold nd; omega, ?_⟩
  unfold nd
  rw [take_snoc 0 (dsT t) j (by rw [dsT_len]; exact hj), List.sum_append]
  have e : (dsT t).getD j 0 = dl (t.post.getD (t.post.length - 1 - j) (0, 0)).1 := by
    have hl : j < (dsT t).length := by rw [dsT_len]; exact hj
    rw [List.getD_eq_getElem?_getD, List.getElem?_eq_getElem hl, List.getD_eq_getElem?_getD, List.getElem?_eq_getElem (show t.post.length - 1 - j < t.post.length by omega)]
    simp [dsT]
  rw [e]
  simp
  omega

set_option maxRecDepth 100000 in
set_option maxHeartbeats 1000000 in
theorem specStarts (ms : List (Int × Int)) (P L : Nat) (f : Nat → Int) (E : Int) (hE : (P : Int) + L - 1 = E) (h0 : f 0 = 1) (hL : f L = 0)
    (hf : ∀ j, j < L → 1 ≤ f j ∧ f j ≤ 1 + j ∧ f (j + 1) = f j + dl (ms.getD (P + (L - 1 - j)) (0, 0)).1) (hPL : P + L ≤ ms.length) (hlen : ms.length ≤ 15)
    (B : Nat) (v : Value) (w : World) (hr : RdMarks w B v ms) :
    Calls Try.prog 99 #[v, .int .i64 E] w fun e w' => e = .returned (.int .i64 P) ∧ w = w' := by
  obtain ⟨ao, cap, rfl, hal, ham, hi0, hac0⟩ := hr
  have hac := Lib.hid hac0; clear hac0 hi0
  have H0 := Lib.hid h0; clear h0
  have HL := Lib.hid hL; clear hL
  have Hf := Lib.hid hf; clear hf
  have HE := Lib.hid hE; clear hE
  unfold maxLen at ham
  go_enter Try.func99, Try.ntmps99
  go_wp2_with fail
  go_loop [5, 6] (fun n i => ∃ j : Nat, j ≤ L ∧ n = .int .i64 (f j) ∧ i = .int .i64 (E - j))
    (fun _ i => (intOf i + 1).toNat)
  case atStart => exact ⟨0, Nat.zero_le _, by rw [H0.out], by simp⟩
  case round =>
    obtain ⟨j, hj, rfl, rfl⟩ := hrel
    by_cases hlt : j < L
    · obtain ⟨h1, h2, h3⟩ := Hf.out j hlt
      obtain ⟨K, hK⟩ : ∃ K : Nat, K = P + (L - 1 - j) := ⟨_, rfl⟩
      rw [← hK] at h3
      have hKE : E - (j : Int) = (K : Int) := by have := HE.out; omega
      have hKE' := Lib.hid hKE
      have hKm : K < ms.length := by omega
      have HN : Hid (E - ((j + 1 : Nat) : Int) = (K : Int) - 1) := by unfold Hid; omega
      rw [hKE]
      clear hKE hK
      obtain ⟨b, off, rfl, hb, hc1, hc2⟩ := hac.out K hKm
      generalize ms.getD K (0, 0) = m at *
      obtain ⟨kd, x⟩ := m
      dsimp only at hc1 hc2 h3
      generalize hy : f j = y at *
      have hyy := Lib.hid hy; clear hy
      have hK1 : IntKind.i64.wrap ((K : Int) - 1) = (K : Int) - 1 := IntWalk.i64_in _ (by omega)
      have hy1 : IntKind.i64.wrap (y - 1) = y - 1 := IntWalk.i64_in _ (by omega)
      have hy2 : IntKind.i64.wrap (y + 1) = y + 1 := IntWalk.i64_in _ (by omega)
      have hy0 : 0 < y := by omega
      by_cases hk1 : kd ≤ 1
      · have Hn : Hid (f (j + 1) = y - 1) := by unfold Hid; rw [h3]; simp [dl, hk1]; omega
        clear h3
        go_wp2
        go_round
        case rel => exact ⟨j + 1, by omega, by rw [Hn.out], by rw [HN.out]⟩
        case measure => first | (simp [intOf]; done) | (simp [intOf]; omega)
      · by_cases hk2 : kd = 2
        · subst hk2
          have Hn : Hid (f (j + 1) = y) := by unfold Hid; rw [h3]; simp [dl]
          clear h3
          go_wp2
          go_round
          case rel => exact ⟨j + 1, by omega, by rw [Hn.out], by rw [HN.out]⟩
          case measure => first | (simp [intOf]; done) | (simp [intOf]; omega)
        · have hk3 : 2 < kd := by omega
          have Hn : Hid (f (j + 1) = y + 1) := by unfold Hid; rw [h3]; simp [dl, hk1, hk2]
          clear h3
          have hk1' : 1 < kd := by omega
          go_wp2
          go_round
          case rel => exact ⟨j + 1, by omega, by rw [Hn.out], by rw [HN.out]⟩
          case measure => first | (simp [intOf]; done) | (simp [intOf]; omega)
    · obtain rfl : j = L := by omega
      rw [HL.out]
      have hw : E - (j : Int) = (P : Int) - 1 := by have := HE.out; omega
      rw [hw]
      clear hw
      have hP : IntKind.i64.wrap ((P : Int) - 1 + 1) = (P : Int) := by rw [IntWalk.i64_in _ (by omega)]; omega
      go_wp2
      go_ret
      exact ⟨ret_int (by omega), rfl⟩
/-! ### parts of rows, parts' texts -/
theorem RdMarks.cut {w : World} {B b off n cap m i : Nat} {ms pre sub suf : List (Int × Int)} (h : RdMarks w B (.slice (some ⟨b, off, none⟩) n cap) ms) (e : ms = pre ++ sub ++ suf) (hi : pre.length = i) (hm : sub.length = m) :
    RdMarks w B (.slice (some ⟨b, off + i * 2, none⟩) m (cap - i)) sub := by
  obtain ⟨ao, cap', hv, hl, hmx, hii, hc⟩ := h
  cases hv
  subst e; subst hi; subst hm
  simp only [List.length_append] at hl
  refine ⟨_, _, rfl, by omega, by unfold maxLen at *; omega, fun x hx => hii x (by simp [hx]), fun j hj => ?_⟩
  obtain ⟨b', off', he, hb, h1, h2⟩ := hc (pre.length + j) (by simp only [List.length_append]; omega)
  cases he
  have e : (pre ++ sub ++ suf).getD (pre.length + j) (0, 0) = sub.getD j (0, 0) := by
    rw [List.getD_eq_getElem?_getD, List.getElem?_append_left (by simp only [List.length_append]; omega), List.getElem?_append_right (by omega), Nat.add_sub_cancel_left, ← List.getD_eq_getElem?_getD]
  rw [e] at h1 h2
  exact ⟨b, _, rfl, hb, by rw [← h1]; congr 2; omega, by rw [← h2]; congr 2; omega⟩
theorem RdMarks.form {w : World} {B : Nat} {v : Value} {ms : List (Int × Int)} (h : RdMarks w B v ms) (hn : 0 < ms.length) : ∃ b off cap, v = .slice (some ⟨b, off, none⟩) ms.length cap ∧ ms.length ≤ cap ∧ cap ≤ maxLen ∧ b < B := by
  obtain ⟨ao, cap, rfl, hl, hm, _, hc⟩ := h
  obtain ⟨b, off, rfl, hb, _⟩ := hc 0 hn
  exact ⟨b, off, cap, rfl, hl, hm, hb⟩
theorem RdMarks.at {w : World} {B b off n cap j : Nat} {ms : List (Int × Int)} {m : Int × Int} (h : RdMarks w B (.slice (some ⟨b, off, none⟩) n cap) ms) (hj : j < ms.length) (hm : ms.getD j (0, 0) = m) :
    w.cell? ⟨b, off + j * 2, none⟩ = some (.int .i64 m.1) ∧ w.cell? ⟨b, off + j * 2 + 1, none⟩ = some (.int .i64 m.2) := by
  obtain ⟨ao, cap, hv, hl, _, _, hc⟩ := h
  cases hv
  obtain ⟨b', off', he, hb, h1, h2⟩ := hc j hj
  cases he
  rw [hm] at h1 h2
  exact ⟨h1, h2⟩
theorem post_pos (t : Tm) : 0 < t.post.length := by cases t <;> simp [Tm.post] <;> omega
end Go.Proofs.Ytobbbmcppmohoaa

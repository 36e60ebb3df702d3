/- Texts of a proof, merged: Starts, Truth, Helpers, Frame. -/
import Derived.Test.YthiabicleedleaaMarksS
import Derived.IntWalk
import Derived.Test.YthiabicleedleaaMerged0
import Derived.Test.YthiabicleedleaaPeople
import Derived.Lib.SmallJoins
import Derived.ProofKit
import Derived.OpenShut
import Derived.ShutString
import Derived.ChangeOld
import Derived.Below
/- Where a part of a row of marks begins; parts of rows. -/
namespace Go.Proofs.Ythiabicleedleaa
open Go.RowKit

/-! ### how far a part reaches back -/
def dl (k : Int) : Int := if k ≤ 1 then -1 else if k = 2 then 0 else 1
def dsT (t : Tm) : List Int := t.post.reverse.map (fun m => dl m.1)
theorem dsT_un (t : Tm) : dsT (.un t) = 0 :: dsT t := by simp [dsT, Tm.post, dl]
theorem dsT_bin {k : Int} (a b : Tm) (hk : 3 ≤ k) : dsT (.bin k a b) = 1 :: (dsT b ++ dsT a) := by
  have h1 : ¬ k ≤ 1 := by omega
  have h2 : ¬ k = 2 := by omega
  simp [dsT, Tm.post, dl, h1, h2]
theorem dsT_len (t : Tm) : (dsT t).length = t.post.length := by simp [dsT]
theorem dsT_sum {p : Int} : ∀ t : Tm, t.ok p → (dsT t).sum = -1 ∧ ∀ j, j < (dsT t).length → 0 ≤ ((dsT t).take j).sum
  | .leaf k x, h => by
    have hk : k ≤ 1 := by simp only [Tm.ok] at h; omega
    have e : dsT (.leaf k x) = [-1] := by simp [dsT, Tm.post, dl, hk]
    rw [e]
    refine ⟨rfl, fun j hj => ?_⟩
    simp at hj
    subst hj
    simp
  | .un t, h => by
    obtain ⟨h1, h2⟩ := dsT_sum t (by simpa only [Tm.ok] using h)
    rw [dsT_un]
    refine ⟨by simp [h1], fun j hj => ?_⟩
    cases j with
    | zero => simp
    | succ j =>
      have := h2 j (by simp at hj; exact hj)
      simpa using this
  | .bin k a b, h => by
    simp only [Tm.ok] at h
    obtain ⟨hk, _, ha, hb⟩ := h
    obtain ⟨a1, a2⟩ := dsT_sum a ha
    obtain ⟨b1, b2⟩ := dsT_sum b hb
    rw [dsT_bin a b hk]
    refine ⟨by simp [a1, b1], fun j hj => ?_⟩
    cases j with
    | zero => simp
    | succ j =>
      simp at hj
      rw [List.take_succ_cons, List.sum_cons, List.take_append, List.sum_append]
      by_cases hjb : j < (dsT b).length
      · have := b2 j hjb
        rw [Nat.sub_eq_zero_of_le (by omega)]
        simp; omega
      · have := a2 (j - (dsT b).length) (by omega)
        rw [List.take_of_length_le (by omega), b1]
        omega
theorem dl_le (k : Int) : dl k ≤ 1 := by unfold dl; split <;> (try split) <;> omega
theorem sum_take_le : ∀ (l : List Int) (j : Nat), (∀ x ∈ l, x ≤ 1) → (l.take j).sum ≤ j
  | [], j, _ => by simp
  | x :: l, 0, _ => by simp
  | x :: l, j + 1, h => by
    have h1 := h x (by simp)
    have h2 := sum_take_le l j (fun y hy => h y (by simp [hy]))
    simp; omega
/-- the parts that are wanted once j marks have been passed, from the last one back -/
def nd (t : Tm) (j : Nat) : Int := 1 + ((dsT t).take j).sum
theorem nd_zero (t : Tm) : nd t 0 = 1 := by simp [nd]
theorem nd_all {p : Int} {t : Tm} (h : t.ok p) : nd t t.post.length = 0 := by
  obtain ⟨h1, _⟩ := dsT_sum t h
  unfold nd
  rw [List.take_of_length_le (by rw [dsT_len]; omega), h1]
  rfl
theorem nd_step {p : Int} {t : Tm} (h : t.ok p) {j : Nat} (hj : j < t.post.length) : 1 ≤ nd t j ∧ nd t j ≤ 1 + j ∧ nd t (j + 1) = nd t j + dl (t.post.getD (t.post.length - 1 - j) (0, 0)).1 := by
  obtain ⟨_, h2⟩ := dsT_sum t h
  have h3 := h2 j (by rw [dsT_len]; exact hj)
  have h4 := sum_take_le (dsT t) j (fun x hx => by
    simp only [dsT, List.mem_map] at hx
    obtain ⟨m, _, rfl⟩ := hx
    exact dl_le _)
  refine ⟨by unfold nd; omega, by unfold nd; omega, ?_⟩
  unfold nd
  rw [take_snoc 0 (dsT t) j (by rw [dsT_len]; exact hj), List.sum_append]
  have e : (dsT t).getD j 0 = dl (t.post.getD (t.post.length - 1 - j) (0, 0)).1 := by
    have hl : j < (dsT t).length := by rw [dsT_len]; exact hj
    rw [List.getD_eq_getElem?_getD, List.getElem?_eq_getElem hl, List.getD_eq_getElem?_getD, List.getElem?_eq_getElem (show t.post.length - 1 - j < t.post.length by omega)]
    simp [dsT]
  rw [e]
  simp
  omega

set_option maxRecDepth 100000 in
set_option maxHeartbeats 1000000 in
theorem specStarts (ms : List (Int × Int)) (P L : Nat) (f : Nat → Int) (E : Int) (hE : (P : Int) + L - 1 = E) (h0 : f 0 = 1) (hL : f L = 0)
    (hf : ∀ j, j < L → 1 ≤ f j ∧ f j ≤ 1 + j ∧ f (j + 1) = f j + dl (ms.getD (P + (L - 1 - j)) (0, 0)).1) (hPL : P + L ≤ ms.length) (hlen : ms.length ≤ 15)
    (B : Nat) (v : Value) (w : World) (hr : RdMarks w B v ms) :
    Calls Try.prog 73 #[v, .int .i64 E] w fun e w' => e = .returned (.int .i64 P) ∧ w = w' := by
  obtain ⟨ao, cap, rfl, hal, ham, hi0, hac0⟩ := hr
  have hac := Lib.hid hac0; clear hac0 hi0
  have H0 := Lib.hid h0; clear h0
  have HL := Lib.hid hL; clear hL
  have Hf := Lib.hid hf; clear hf
  have HE := Lib.hid hE; clear hE
  unfold maxLen at ham
  go_enter Try.func73, Try.ntmps73
  go_wp2_with fail
  go_loop [5, 6] (fun n i => ∃ j : Nat, j ≤ L ∧ n = .int .i64 (f j) ∧ i = .int .i64 (E - j))
    (fun _ i => (intOf i + 1).toNat)
  case atStart => exact ⟨0, Nat.zero_le _, by rw [H0.out], by simp⟩
  case round =>
    obtain ⟨j, hj, rfl, rfl⟩ := hrel
    by_cases hlt : j < L
    · obtain ⟨h1, h2, h3⟩ := Hf.out j hlt
      obtain ⟨K, hK⟩ : ∃ K : Nat, K = P + (L - 1 - j) := ⟨_, rfl⟩
      rw [← hK] at h3
      have hKE : E - (j : Int) = (K : Int) := by have := HE.out; omega
      have hKE' := Lib.hid hKE
      have hKm : K < ms.length := by omega
      have HN : Hid (E - ((j + 1 : Nat) : Int) = (K : Int) - 1) := by unfold Hid; omega
      rw [hKE]
      clear hKE hK
      obtain ⟨b, off, rfl, hb, hc1, hc2⟩ := hac.out K hKm
      generalize ms.getD K (0, 0) = m at *
      obtain ⟨kd, x⟩ := m
      dsimp only at hc1 hc2 h3
      generalize hy : f j = y at *
      have hyy := Lib.hid hy; clear hy
      have hK1 : IntKind.i64.wrap ((K : Int) - 1) = (K : Int) - 1 := IntWalk.i64_in _ (by omega)
      have hy1 : IntKind.i64.wrap (y - 1) = y - 1 := IntWalk.i64_in _ (by omega)
      have hy2 : IntKind.i64.wrap (y + 1) = y + 1 := IntWalk.i64_in _ (by omega)
      have hy0 : 0 < y := by omega
      by_cases hk1 : kd ≤ 1
      · have Hn : Hid (f (j + 1) = y - 1) := by unfold Hid; rw [h3]; simp [dl, hk1]; omega
        clear h3
        go_wp2
        go_round
        case rel => exact ⟨j + 1, by omega, by rw [Hn.out], by rw [HN.out]⟩
        case measure => first | (simp [intOf]; done) | (simp [intOf]; omega)
      · by_cases hk2 : kd = 2
        · subst hk2
          have Hn : Hid (f (j + 1) = y) := by unfold Hid; rw [h3]; simp [dl]
          clear h3
          go_wp2
          go_round
          case rel => exact ⟨j + 1, by omega, by rw [Hn.out], by rw [HN.out]⟩
          case measure => first | (simp [intOf]; done) | (simp [intOf]; omega)
        · have hk3 : 2 < kd := by omega
          have Hn : Hid (f (j + 1) = y + 1) := by unfold Hid; rw [h3]; simp [dl, hk1, hk2]
          clear h3
          have hk1' : 1 < kd := by omega
          go_wp2
          go_round
          case rel => exact ⟨j + 1, by omega, by rw [Hn.out], by rw [HN.out]⟩
          case measure => first | (simp [intOf]; done) | (simp [intOf]; omega)
    · obtain rfl : j = L := by omega
      rw [HL.out]
      have hw : E - (j : Int) = (P : Int) - 1 := by have := HE.out; omega
      rw [hw]
      clear hw
      have hP : IntKind.i64.wrap ((P : Int) - 1 + 1) = (P : Int) := by rw [IntWalk.i64_in _ (by omega)]; omega
      go_wp2
      go_ret
      exact ⟨ret_int (by omega), rfl⟩
/-! ### parts of rows, parts' texts -/
theorem RdMarks.cut {w : World} {B b off n cap m i : Nat} {ms pre sub suf : List (Int × Int)} (h : RdMarks w B (.slice (some ⟨b, off, none⟩) n cap) ms) (e : ms = pre ++ sub ++ suf) (hi : pre.length = i) (hm : sub.length = m) :
    RdMarks w B (.slice (some ⟨b, off + i * 2, none⟩) m (cap - i)) sub := by
  obtain ⟨ao, cap', hv, hl, hmx, hii, hc⟩ := h
  cases hv
  subst e; subst hi; subst hm
  simp only [List.length_append] at hl
  refine ⟨_, _, rfl, by omega, by unfold maxLen at *; omega, fun x hx => hii x (by simp [hx]), fun j hj => ?_⟩
  obtain ⟨b', off', he, hb, h1, h2⟩ := hc (pre.length + j) (by simp only [List.length_append]; omega)
  cases he
  have e : (pre ++ sub ++ suf).getD (pre.length + j) (0, 0) = sub.getD j (0, 0) := by
    rw [List.getD_eq_getElem?_getD, List.getElem?_append_left (by simp only [List.length_append]; omega), List.getElem?_append_right (by omega), Nat.add_sub_cancel_left, ← List.getD_eq_getElem?_getD]
  rw [e] at h1 h2
  exact ⟨b, _, rfl, hb, by rw [← h1]; congr 2; omega, by rw [← h2]; congr 2; omega⟩
theorem RdMarks.form {w : World} {B : Nat} {v : Value} {ms : List (Int × Int)} (h : RdMarks w B v ms) (hn : 0 < ms.length) : ∃ b off cap, v = .slice (some ⟨b, off, none⟩) ms.length cap ∧ ms.length ≤ cap ∧ cap ≤ maxLen ∧ b < B := by
  obtain ⟨ao, cap, rfl, hl, hm, _, hc⟩ := h
  obtain ⟨b, off, rfl, hb, _⟩ := hc 0 hn
  exact ⟨b, off, cap, rfl, hl, hm, hb⟩
theorem RdMarks.at {w : World} {B b off n cap j : Nat} {ms : List (Int × Int)} {m : Int × Int} (h : RdMarks w B (.slice (some ⟨b, off, none⟩) n cap) ms) (hj : j < ms.length) (hm : ms.getD j (0, 0) = m) :
    w.cell? ⟨b, off + j * 2, none⟩ = some (.int .i64 m.1) ∧ w.cell? ⟨b, off + j * 2 + 1, none⟩ = some (.int .i64 m.2) := by
  obtain ⟨ao, cap, hv, hl, _, _, hc⟩ := h
  cases hv
  obtain ⟨b', off', he, hb, h1, h2⟩ := hc j hj
  cases he
  rw [hm] at h1 h2
  exact ⟨h1, h2⟩
theorem post_pos (t : Tm) : 0 < t.post.length := by cases t <;> simp [Tm.post] <;> omega
end Go.Proofs.Ythiabicleedleaa
/- What holds: terms in worlds, tables of terms, what follows, who matters: the mathematics, without code. -/
namespace Go.Proofs.Ythiabicleedleaa
open Go.RowKit

/-- a term in a world -/
def holds (w : Nat) : Tm → Bool
  | .leaf k x => if k = 0 then w.testBit x.toNat else decide (x ≤ (heads w : Int))
  | .un t => !holds w t
  | .bin k a b => if k = 3 then holds w a && holds w b else if k = 4 then holds w a || holds w b else holds w a == holds w b
/-- the term that a row of marks is -/
def tmOf (p : Int) (ms : List (Int × Int)) : Tm := (termS p ms).getD (.leaf 1 0)
theorem tmOf_post {p : Int} {t : Tm} (ht : t.ok p) : tmOf p t.post = t := by
  unfold tmOf
  rw [(termS_some (p := p)).2 ⟨ht, rfl⟩]; rfl
def holdsV (p : Int) (ms : List (Int × Int)) (x : Int) : Bool := termOk p ms && wOk p x && holds x.toNat (tmOf p ms)
/-- the table of what f says, of N worlds -/
def tabF (N : Nat) (f : Nat → Bool) : Nat := tabOf ((List.range N).filter f)
theorem tabF_bit (N : Nat) (f : Nat → Bool) (j : Nat) : (tabF N f).testBit j = (decide (j < N) && f j) := by
  unfold tabF
  rw [tabOf_bit, Bool.eq_iff_iff]
  simp
theorem tabF_lt (N : Nat) (f : Nat → Bool) : tabF N f < 2 ^ N := tabOf_lt _ N (fun i hi => by simp at hi; exact hi.1)
theorem tabF_ext {N : Nat} {f g : Nat → Bool} : tabF N f = tabF N g ↔ ∀ j, j < N → f j = g j := by
  constructor
  · intro h j hj
    have := congrArg (fun x => x.testBit j) h
    simpa [tabF_bit, hj] using this
  · intro h
    refine bit_ext (tabF_lt N f) (tabF_lt N g) (fun j hj => ?_)
    rw [tabF_bit, tabF_bit, h j hj]
theorem tabF_succ (N : Nat) (f : Nat → Bool) : tabF (N + 1) f = if f N then tabF N f ||| 1 <<< N else tabF N f := by
  unfold tabF
  rw [List.range_succ, List.filter_append]
  by_cases h : f N = true
  · rw [if_pos h, ← tabOf_snoc]; simp [h]
  · rw [if_neg h]; simp [h]
def tabV (p : Int) (ms : List (Int × Int)) : Int := if termOk p ms = true then (tabF (2 ^ p.toNat) (fun w => holds w (tmOf p ms)) : Int) else -1
def sameV (p : Int) (a b : List (Int × Int)) : Bool := termOk p a && termOk p b && decide (tabV p a = tabV p b)
def followsV (p : Int) (a b : List (Int × Int)) : Bool := termOk p a && termOk p b && decide (∀ w, w < 2 ^ p.toNat → holds w (tmOf p a) = true → holds w (tmOf p b) = true)
def alwaysV (p : Int) (ms : List (Int × Int)) : Bool := termOk p ms && decide (∀ w, w < 2 ^ p.toNat → holds w (tmOf p ms) = true)
def matters (p : Int) (t : Tm) (k : Nat) : Bool := decide (∃ w, w < 2 ^ p.toNat ∧ holds w t ≠ holds (w ^^^ 1 <<< k) t)
def matterN (p : Int) (t : Tm) : Nat := tabF p.toNat (matters p t)
def matterV (p : Int) (ms : List (Int × Int)) : Int := if termOk p ms = true then (matterN p (tmOf p ms) : Int) else -1
theorem tabV_no {p : Int} {ms : List (Int × Int)} (h : termOk p ms = false) : tabV p ms = -1 := by simp [tabV, h]
theorem tabV_yes {p : Int} {ms : List (Int × Int)} (h : termOk p ms = true) : tabV p ms = (tabF (2 ^ p.toNat) (fun w => holds w (tmOf p ms)) : Int) := by simp [tabV, h]
theorem tabV_eq {p : Int} {a b : List (Int × Int)} (ha : termOk p a = true) (hb : termOk p b = true) : tabV p a = tabV p b ↔ ∀ w, w < 2 ^ p.toNat → holds w (tmOf p a) = holds w (tmOf p b) := by
  rw [tabV_yes ha, tabV_yes hb, ← tabF_ext]
  omega
/-! ### rows put together -/
theorem termOk_un {p : Int} {a : List (Int × Int)} (ha : termOk p a = true) : termOk p (a ++ [(2, 0)]) = decide (a.length ≤ 14) := by
  obtain ⟨hp, hl, t, ht, rfl⟩ := termOk_iff.1 ha
  have he : t.post ++ [((2 : Int), (0 : Int))] = (Tm.un t).post := rfl
  by_cases h : t.post.length ≤ 14
  · rw [he, decide_eq_true h]
    exact termOk_iff.2 ⟨hp, by simp [Tm.post]; omega, .un t, by simpa only [Tm.ok] using ht, rfl⟩
  · rw [decide_eq_false h]
    exact termOk_no_len (by simp; omega)
theorem tmOf_un {p : Int} {a : List (Int × Int)} (ha : termOk p a = true) : tmOf p (a ++ [(2, 0)]) = .un (tmOf p a) := by
  obtain ⟨hp, hl, t, ht, rfl⟩ := termOk_iff.1 ha
  have he : t.post ++ [((2 : Int), (0 : Int))] = (Tm.un t).post := rfl
  rw [tmOf_post ht, he, tmOf_post (by simpa only [Tm.ok] using ht)]
theorem termOk_bin {p k : Int} {a b : List (Int × Int)} (hk : 3 ≤ k ∧ k ≤ 5) (ha : termOk p a = true) (hb : termOk p b = true) : termOk p (a ++ b ++ [(k, 0)]) = decide (a.length + b.length ≤ 14) := by
  obtain ⟨hp, hl, t, ht, rfl⟩ := termOk_iff.1 ha
  obtain ⟨_, _, u, hu, rfl⟩ := termOk_iff.1 hb
  have he : t.post ++ u.post ++ [((k : Int), (0 : Int))] = (Tm.bin k t u).post := rfl
  by_cases h : t.post.length + u.post.length ≤ 14
  · rw [he, decide_eq_true h]
    exact termOk_iff.2 ⟨hp, by simp [Tm.post]; omega, .bin k t u, by simp only [Tm.ok]; exact ⟨hk.1, hk.2, ht, hu⟩, rfl⟩
  · rw [decide_eq_false h]
    exact termOk_no_len (by simp; omega)
theorem tmOf_bin {p k : Int} {a b : List (Int × Int)} (hk : 3 ≤ k ∧ k ≤ 5) (ha : termOk p a = true) (hb : termOk p b = true) : tmOf p (a ++ b ++ [(k, 0)]) = .bin k (tmOf p a) (tmOf p b) := by
  obtain ⟨hp, hl, t, ht, rfl⟩ := termOk_iff.1 ha
  obtain ⟨_, _, u, hu, rfl⟩ := termOk_iff.1 hb
  have he : t.post ++ u.post ++ [((k : Int), (0 : Int))] = (Tm.bin k t u).post := rfl
  rw [tmOf_post ht, tmOf_post hu, he, tmOf_post (by simp only [Tm.ok]; exact ⟨hk.1, hk.2, ht, hu⟩)]
theorem termOk_count {p x : Int} (hp : 1 ≤ p ∧ p ≤ 4) (hx : 0 ≤ x ∧ x ≤ p + 1) : termOk p [(1, x)] = true :=
  termOk_iff.2 ⟨hp, by simp, .leaf 1 x, by simp only [Tm.ok]; right; refine ⟨trivial, hx.1, ?_⟩; omega, rfl⟩
theorem tmOf_count {p x : Int} (_hp : 1 ≤ p ∧ p ≤ 4) (hx : 0 ≤ x ∧ x ≤ p + 1) : tmOf p [(1, x)] = .leaf 1 x :=
  tmOf_post (t := .leaf 1 x) (by simp only [Tm.ok]; right; refine ⟨trivial, hx.1, ?_⟩; omega)
/-! ### the laws of what holds -/
theorem holds_un (w : Nat) (t : Tm) : holds w (.un t) = !holds w t := by rw [holds]
theorem holds_and (w : Nat) (a b : Tm) : holds w (.bin 3 a b) = (holds w a && holds w b) := by rw [holds, if_pos rfl]
theorem holds_or (w : Nat) (a b : Tm) : holds w (.bin 4 a b) = (holds w a || holds w b) := by rw [holds, if_neg (by decide), if_pos rfl]
theorem holds_same (w : Nat) (a b : Tm) : holds w (.bin 5 a b) = (holds w a == holds w b) := by rw [holds, if_neg (by decide), if_neg (by decide)]
theorem holds_none (w : Nat) : holds w (.leaf 1 0) = true := by rw [holds, if_neg (by decide)]; simp
theorem same_follows {p : Int} {a b : List (Int × Int)} (ha : termOk p a = true) (hb : termOk p b = true) : sameV p a b = (followsV p a b && followsV p b a) := by
  unfold sameV followsV
  rw [ha, hb]
  simp only [Bool.true_and]
  rw [← Bool.decide_and, decide_eq_decide, tabV_eq ha hb]
  constructor
  · intro h
    exact ⟨fun w hw h1 => by rw [← h w hw]; exact h1, fun w hw h1 => by rw [h w hw]; exact h1⟩
  · rintro ⟨h1, h2⟩ w hw
    rw [Bool.eq_iff_iff]
    exact ⟨h1 w hw, h2 w hw⟩
theorem same_always {p : Int} {a b : List (Int × Int)} (ha : termOk p a = true) (hb : termOk p b = true) (h : termOk p (a ++ b ++ [(5, 0)]) = true) : alwaysV p (a ++ b ++ [(5, 0)]) = sameV p a b := by
  unfold alwaysV sameV
  rw [ha, hb, h, tmOf_bin (by omega) ha hb]
  simp only [Bool.true_and]
  rw [decide_eq_decide, tabV_eq ha hb]
  simp only [holds_same, beq_iff_eq]
theorem same_refl {p : Int} {a : List (Int × Int)} (ha : termOk p a = true) : sameV p a a = true := by simp [sameV, ha]
theorem follows_or {p : Int} {a b : List (Int × Int)} (ha : termOk p a = true) (hb : termOk p b = true) (h : termOk p (a ++ b ++ [(4, 0)]) = true) : sameV p (a ++ b ++ [(4, 0)]) b = followsV p a b := by
  unfold followsV sameV
  rw [ha, hb, h]
  simp only [Bool.true_and]
  rw [decide_eq_decide, tabV_eq h hb, tmOf_bin (by omega) ha hb]
  simp only [holds_or]
  refine forall_congr' fun w => forall_congr' fun _ => ?_
  cases holds w (tmOf p a) <;> cases holds w (tmOf p b) <;> simp
theorem follows_refl {p : Int} {a : List (Int × Int)} (ha : termOk p a = true) : followsV p a a = true := by simp [followsV, ha]
theorem p_of {p : Int} {a : List (Int × Int)} (ha : termOk p a = true) : 1 ≤ p ∧ p ≤ 4 := (termOk_iff.1 ha).1
theorem follows_none {p : Int} {a : List (Int × Int)} (ha : termOk p a = true) : followsV p a [(1, 0)] = true := by
  have hp := p_of ha
  unfold followsV
  rw [ha, termOk_count hp (by omega), tmOf_count hp (by omega)]
  simp [holds_none]
theorem always_none {p : Int} (hp : 1 ≤ p ∧ p ≤ 4) : alwaysV p [(1, 0)] = true := by
  unfold alwaysV
  rw [termOk_count hp (by omega), tmOf_count hp (by omega)]
  simp [holds_none]
theorem not_holds {p : Int} {a : List (Int × Int)} (ha : termOk p a = true) (h : termOk p (a ++ [(2, 0)]) = true) {x : Int} (hx : wOk p x = true) : holdsV p (a ++ [(2, 0)]) x = !holdsV p a x := by
  unfold holdsV
  rw [ha, h, hx, tmOf_un ha, holds_un]
  simp
/-- neither is both not -/
theorem not_either {p : Int} {a b : List (Int × Int)} (ha : termOk p a = true) (hb : termOk p b = true) (h1 : termOk p (a ++ b ++ [(4, 0)] ++ [(2, 0)]) = true) (h2 : termOk p (a ++ [(2, 0)] ++ (b ++ [(2, 0)]) ++ [(3, 0)]) = true) : sameV p (a ++ b ++ [(4, 0)] ++ [(2, 0)]) (a ++ [(2, 0)] ++ (b ++ [(2, 0)]) ++ [(3, 0)]) = true := by
  have hl1 := (termOk_iff.1 h1).2.1
  have hl2 := (termOk_iff.1 h2).2.1
  simp only [List.length_append, List.length_cons, List.length_nil] at hl1 hl2
  have h3 : termOk p (a ++ b ++ [(4, 0)]) = true := by rw [termOk_bin (by omega) ha hb]; simp; omega
  have h4 : termOk p (a ++ [(2, 0)]) = true := by rw [termOk_un ha]; simp; omega
  have h5 : termOk p (b ++ [(2, 0)]) = true := by rw [termOk_un hb]; simp; omega
  unfold sameV
  rw [h1, h2]
  simp only [Bool.true_and]
  rw [decide_eq_true_eq, tabV_eq h1 h2, tmOf_un h3, tmOf_bin (by omega) ha hb, tmOf_bin (by omega) h4 h5, tmOf_un ha, tmOf_un hb]
  intro w _
  rw [holds_un, holds_or, holds_and, holds_un, holds_un]
  simp
end Go.Proofs.Ythiabicleedleaa
/- Contracts of the laws' own helpers over lists of numbers. -/
namespace Go.Proofs.Ythiabicleedleaa
open Go.RowKit Go.Joins

def ints (zs : List Int) : List Value := zs.map (Value.int .i64)
theorem grownBy_setCell {w : World} (g j : Nat) (u : Value) : w.grownBy (w.setCell ⟨g, j, none⟩ u) (some g) :=
  ⟨rfl, rfl, rfl, by simp [World.setCell], fun k _ hne => Below.heap_setCell _ _ _ _ (by intro e; exact hne (by rw [e]))⟩
theorem grownBy_trans {a b c : World} {row : Option Nat} (h : a.grownBy b row) (k : b.grownBy c row) : a.grownBy c row :=
  ⟨k.os.trans h.os, k.tape.trans h.tape, k.output.trans h.output, Nat.le_trans h.size k.size, fun i hi hne => (k.block i (Nat.lt_of_lt_of_le hi h.size) hne).trans (h.block i hi hne)⟩
theorem grownBy_drewN {a b : World} {row : Option Nat} (h : a.grownBy b row) (n : Nat) : a.grownBy (b.drewN n) row :=
  grownBy_trans h ⟨rfl, rfl, rfl, Nat.le_refl _, fun _ _ _ => rfl⟩

/-! ### equality of two lists of numbers -/
theorem list_eq_of {xs ys : List Int} (hl : xs.length = ys.length) (h : ∀ j, j < xs.length → xs.getD j 0 = ys.getD j 0) : xs = ys := by
  refine List.ext_getElem hl fun j h1 h2 => ?_
  have := h j h1
  simpa [List.getD, h1, h2] using this
theorem ints_set_mid (A R : List Int) (z x : Int) (k : Nat) (hk : A.length = k) : (ints (A ++ z :: R)).set k (.int .i64 x) = ints (A ++ x :: R) := by
  subst hk
  have h1 : (A.map (Value.int .i64)).length = A.length := by simp
  unfold ints
  rw [List.map_append, List.map_append, List.map_cons, List.map_cons, List.set_append_right _ _ (by omega), h1, Nat.sub_self]
  rfl
theorem mark_set (zs : List Int) (k0 k : Nat) (hk : k < zs.length) :
    (ints (((List.range k).map fun j => ((k0 + j : Nat) : Int)) ++ zs.drop k)).set k (.int .i64 ((k0 + k : Nat) : Int)) = ints (((List.range (k+1)).map fun j => ((k0 + j : Nat) : Int)) ++ zs.drop (k + 1)) := by
  rw [List.drop_eq_getElem_cons hk, List.range_succ, List.map_append, List.append_assoc]
  exact ints_set_mid _ _ _ _ _ (by simp)
theorem copy_set (zs : List Int) (n k : Nat) (hn : zs.length = n) (hk : k < n) :
    (ints (zs.take k ++ List.replicate (n - k) 0)).set k (.int .i64 (zs.getD k 0)) = ints (zs.take (k + 1) ++ List.replicate (n - (k + 1)) 0) := by
  have hr : List.replicate (n - k) (0 : Int) = 0 :: List.replicate (n - (k + 1)) 0 := by
    rw [show n - k = (n - (k + 1)) + 1 from by omega]; rfl
  rw [hr, List.take_succ_eq_append_getElem (by omega), show zs.getD k 0 = zs[k] from by simp [List.getD, show k < zs.length by omega], List.append_assoc]
  exact ints_set_mid _ _ _ _ _ (by simp; omega)


set_option maxHeartbeats 1000000 in
theorem sameInts (xs ys : List Int) (B B' : Nat) (a b : Value) (w : World) (hx : RdInts w B a xs) (hy : RdInts w B' b ys) :
    Calls Try.prog 29 #[a, b] w fun e w' => e = .returned (.bool (decide (xs = ys))) ∧ ∃ n, w.drewN n = w' := by
  obtain ⟨ao, acap, rfl, hal, ham, hac0⟩ := hx
  obtain ⟨bo, bcap, rfl, hbl, hbm, hbc0⟩ := hy
  have hac := Lib.hid hac0; clear hac0
  have hbc := Lib.hid hbc0; clear hbc0
  unfold maxLen at ham hbm
  by_cases hlen : xs.length = ys.length
  · have Hl := Lib.hid hlen
    have hbc1 : Hid (∀ (j : Nat), j < xs.length → ∃ b off, bo = some ⟨b, off, none⟩ ∧ b < B' ∧ w.cell? ⟨b, off + j, none⟩ = some (.int .i64 (ys.getD j 0))) := fun j hj => hbc.out j (by omega)
    rw [← hlen] at hbl ⊢
    clear hlen hbc
    go_enter Try.func29, Try.ntmps29
    go_wp2
    go_loopw [5] (fun i wr => ∃ k : Nat, k ≤ xs.length ∧ i = .int .i64 k ∧ Hid (∀ j, j < k → xs.getD j 0 = ys.getD j 0) ∧ ∃ n, w.drewN n = wr) (fun i _ => xs.length - (intOf i).toNat)
    case atStart => exact ⟨0, Nat.zero_le _, rfl, fun j hj => by omega, 0, rfl⟩
    case round =>
      obtain ⟨k, hk, rfl, hall, nd, rfl⟩ := hrel
      by_cases hlt : k < xs.length
      · obtain ⟨b1, o1, rfl, _, hc1⟩ := hac.out k hlt
        obtain ⟨b2, o2, rfl, _, hc2⟩ := hbc1.out k hlt
        by_cases hne : xs.getD k 0 = ys.getD k 0
        · have Hne := Lib.hid hne
          rw [← hne] at hc2
          clear hne
          generalize hz : xs.getD k 0 = z at *
          have Hz := Lib.hid hz; clear hz
          go_wp2_with fail
          go_quiet (fail)
          go_wp2
          go_roundw
          case rel => exact ⟨k + 1, by omega, by go_num, fun j hj => by
            by_cases hjk : j < k
            · exact hall.out j hjk
            · obtain rfl : j = k := by omega
              rw [Hz.out]; exact Hne.out, _, rfl⟩
          case measure => simp [intOf]; omega
        · have hdec : Hid (decide (xs = ys) = false) := by
            unfold Hid; rw [decide_eq_false_iff_not]; intro e; rw [e] at hne; exact hne rfl
          have hb : (xs.getD k 0 != ys.getD k 0) = true := by rw [bne_iff_ne]; exact hne
          clear hne
          generalize xs.getD k 0 = z at *
          generalize ys.getD k 0 = z' at *
          go_wp2_with fail
          go_quiet (fail)
          go_wp2
          go_ret
          exact ⟨ret_bool (by rw [hdec.out]), _, (World.drewN_drewN _ _ _).symm⟩
      · obtain rfl : k = xs.length := by omega
        have hdec : Hid (decide (xs = ys) = true) := by
          unfold Hid; rw [decide_eq_true_eq]; exact list_eq_of Hl.out hall.out
        go_wp2
        go_ret
        exact ⟨ret_bool (by rw [hdec.out]), nd, rfl⟩
  · have hb : ((xs.length : Int) != (ys.length : Int)) = true := by rw [bne_iff_ne]; omega
    have hdec : Hid (decide (xs = ys) = false) := by
      unfold Hid; rw [decide_eq_false_iff_not]; intro e; rw [e] at hlen; exact hlen rfl
    clear hlen
    go_enter Try.func29, Try.ntmps29
    go_wp2
    go_ret
    exact ⟨ret_bool (by rw [hdec.out]), 0, rfl⟩

set_option maxHeartbeats 1000000 in
theorem hasInt (xs : List Int) (x : Int) (B : Nat) (a : Value) (w : World) (hx : RdInts w B a xs) :
    Calls Try.prog 16 #[a, .int .i64 x] w fun e w' => e = .returned (.bool (decide (x ∈ xs))) ∧ w = w' := by
  obtain ⟨ao, acap, rfl, hal, ham, hac0⟩ := hx
  have hac := Lib.hid hac0; clear hac0
  unfold maxLen at ham
  go_enter Try.func16, Try.ntmps16
  go_wp2
  go_loop [5] (fun i => ∃ k : Nat, k ≤ xs.length ∧ i = .int .i64 k ∧ Hid (∀ j, j < k → xs.getD j 0 ≠ x)) (fun i => xs.length - (intOf i).toNat)
  case atStart => exact ⟨0, Nat.zero_le _, rfl, fun j hj => by omega⟩
  case round =>
    obtain ⟨k, hk, rfl, hall⟩ := hrel
    by_cases hlt : k < xs.length
    · obtain ⟨b1, o1, rfl, _, hc1⟩ := hac.out k hlt
      by_cases hne : xs.getD k 0 = x
      · have hb : (xs.getD k 0 == x) = true := by rw [beq_iff_eq]; exact hne
        have hdec : Hid (decide (x ∈ xs) = true) := by
          unfold Hid; rw [decide_eq_true_eq, ← hne, show xs.getD k 0 = xs[k] from by simp [List.getD, hlt]]; exact List.getElem_mem hlt
        clear hne
        generalize xs.getD k 0 = z at *
        go_wp2
        go_ret
        exact ⟨ret_bool (by rw [hdec.out]), rfl⟩
      · have hb : (xs.getD k 0 == x) = false := by rw [beq_eq_false_iff_ne]; exact hne
        have Hne := Lib.hid hne; clear hne
        generalize hz : xs.getD k 0 = z at *
        have Hz := Lib.hid hz; clear hz
        go_wp2
        go_round
        case rel => exact ⟨k + 1, by omega, by go_num, fun j hj => by
          by_cases hjk : j < k
          · exact hall.out j hjk
          · obtain rfl : j = k := by omega
            rw [Hz.out]; exact Hne.out⟩
        case measure => simp [intOf]; omega
    · obtain rfl : k = xs.length := by omega
      have hdec : Hid (decide (x ∈ xs) = false) := by
        unfold Hid; rw [decide_eq_false_iff_not]; intro hm
        obtain ⟨j, hj, rfl⟩ := List.getElem_of_mem hm
        exact hall.out j hj (by simp [List.getD, hj])
      go_wp2
      go_ret
      exact ⟨ret_bool (by rw [hdec.out]), rfl⟩





end Go.Proofs.Ythiabicleedleaa
/- What the frames of all laws share: a slice that came in, read as a list; two closed facts of the program. -/
namespace Go.Proofs.Ythiabicleedleaa
open Go.RowKit

theorem Try.own : ownKnob Try.prog.godebug = none := by kernel_rfl
theorem Try.laidOut : laidOutB Try.prog = true := by kernel_rfl

/-- a slice of integers that came in: nil, or a row of cap cells that read as zs -/
def IsRow (k : IntKind) (w : World) (a : Option Addr) (len cap : Nat) (zs : List Int) : Prop :=
  (a = none ∧ len = 0 ∧ cap = 0 ∧ zs = []) ∨
  ∃ x, a = some x ∧ len ≤ cap ∧ cap ≤ maxLen ∧ zs.length = cap ∧ (∀ i, i < zs.length → w.cell? (x.add i) = some (.int k (zs.getD i 0))) ∧ ∀ n ∈ zs, (Lit.int k n).wf = true

theorem cell_add {w : World} {x : Addr} {i : Nat} {v v0 : Value} (h0 : w.cell? (x.add 0) = some v0) (h : w.cell? (x.add i) = some v) : ∃ b off, x = ⟨b, off, none⟩ ∧ b < w.heap.size ∧ w.cell? ⟨b, off + i, none⟩ = some v := by
  obtain ⟨b, off, spot⟩ := x
  have hspot : spot = none := by simpa [Addr.add] using World.cell?_spot h0
  subst hspot
  have hadd : (⟨b, off, none⟩ : Addr).add i = ⟨b, off + i, none⟩ := by unfold Addr.add; split <;> simp_all
  rw [hadd] at h
  exact ⟨b, off, rfl, World.block_lt_of_cell? w _ h, h⟩

theorem RdInts.of_row {w : World} {a : Option Addr} {len cap : Nat} {zs : List Int} (h : IsRow .i64 w a len cap zs) : RdInts w w.heap.size (.slice a len cap) (zs.take len) := by
  rcases h with ⟨rfl, rfl, rfl, rfl⟩ | ⟨x, rfl, hl, hm, hz, hc, _⟩
  · exact ⟨none, 0, rfl, Nat.le_refl _, by unfold maxLen; omega, fun j hj => by simp at hj⟩
  · have hlen : (zs.take len).length = len := by simp; omega
    refine ⟨some x, cap, by rw [hlen], by omega, hm, fun j hj => ?_⟩
    rw [hlen] at hj
    obtain ⟨b, off, rfl, hb, hcell⟩ := cell_add (hc 0 (by omega)) (hc j (by omega))
    refine ⟨b, off, rfl, hb, ?_⟩
    rw [hcell]
    simp [List.getD, hj]

/-- v is a slice of n bytes that lies below block B -/
def RdBytes (w : World) (B : Nat) (v : Value) (n : Nat) : Prop :=
  ∃ ao cap, v = .slice ao n cap ∧ n ≤ cap ∧ cap ≤ maxLen ∧
    ∀ j, j < n → ∃ b off, ao = some ⟨b, off, none⟩ ∧ b < B ∧ ∃ z : Nat, z < 256 ∧ w.cell? ⟨b, off + j, none⟩ = some (.int .u8 z)
theorem RdBytes.of_row {w : World} {a : Option Addr} {len cap : Nat} {zs : List Int} (h : IsRow .u8 w a len cap zs) : RdBytes w w.heap.size (.slice a len cap) len := by
  rcases h with ⟨rfl, rfl, rfl, rfl⟩ | ⟨x, rfl, hl, hm, hz, hc, hwf⟩
  · exact ⟨none, 0, rfl, Nat.le_refl _, by unfold maxLen; omega, fun j hj => by omega⟩
  · refine ⟨some x, cap, rfl, hl, hm, fun j hj => ?_⟩
    obtain ⟨b, off, rfl, hb, hcell⟩ := cell_add (hc 0 (by omega)) (hc j (by omega))
    have hw := hwf (zs.getD j 0) (by rw [show zs.getD j 0 = zs[j]'(by omega) from by simp [List.getD, show j < zs.length by omega]]; exact List.getElem_mem _)
    have hbd : 0 ≤ zs.getD j 0 ∧ zs.getD j 0 ≤ 255 := by simpa [Lit.wf, IntKind.min, IntKind.max, IntKind.signed, IntKind.bits] using hw
    obtain ⟨z, hz'⟩ := Int.eq_ofNat_of_zero_le hbd.1
    refine ⟨b, off, rfl, hb, z, by omega, ?_⟩
    rw [hcell, hz']
theorem RdBytes.below {w w' : World} {B : Nat} {v : Value} {n : Nat} (h : RdBytes w B v n) (hb : ∀ k, k < B → w'.heap[k]? = w.heap[k]?) : RdBytes w' B v n := by
  obtain ⟨ao, cap, hv, hl, hm, hc⟩ := h
  refine ⟨ao, cap, hv, hl, hm, fun j hj => ?_⟩
  obtain ⟨b, off, ha, hB, z, hz, hcell⟩ := hc j hj
  exact ⟨b, off, ha, hB, z, hz, by rw [← hcell]; exact World.cell?_of_block (w := w) (hb b hB)⟩

/-! ### the head of the cut, read cheaply: a string is taken as its list of signs by rewriting, not by running the decoder -/
theorem toList_of {s : String} {l : List Char} (h : s = String.ofList l) : s.toList = l := by rw [h]; simp
theorem cons_of_head {α : Type} {l : List α} {x : α} (h : l.head? = some x) : ∃ W, l = x :: W := by
  cases l with
  | nil => cases h
  | cons a r => simp at h; subst h; exact ⟨r, rfl⟩
theorem strip_cut (W : List (List Char)) : stripLifts liftWords ("cut".toList :: W) = ([], "cut".toList :: W) := by kernel_rfl
theorem headLifts_cut {P : Program} {W : List (List Char)} (h : behindMainWord (wordsSigns P.initOrder.toList) = "cut".toList :: W) : P.headLifts = [] := by
  unfold Program.headLifts
  rw [h, strip_cut]
  rfl
theorem mayEnter_cut {P : Program} {W : List (List Char)} (h : behindMainWord (wordsSigns P.initOrder.toList) = "cut".toList :: W) (h1 : P.laysLater = false) (h2 : P.bearsReflect = false) (h3 : P.doorFits [] = true) : P.mayEnter = true := by
  unfold Program.mayEnter
  rw [h]
  dsimp only
  rw [strip_cut, h1, h2, h3]
  simp
theorem lifts_cut {P : Program} {W : List (List Char)} (h : behindMainWord (wordsSigns P.initOrder.toList) = "cut".toList :: W) : P.liftsFinal = false := by
  unfold Program.liftsFinal
  rw [h, headLifts_cut h]
  have e : ("cut".toList == "carried".toList) = false := by decide +kernel
  simp
theorem make_cut {P : Program} {W : List (List Char)} (h : behindMainWord (wordsSigns P.initOrder.toList) = "cut".toList :: W) : P.make = some .cut := by
  unfold Program.make
  rw [h]
  simp
set_option maxRecDepth 100000 in
theorem Try.words : ∃ W, behindMainWord (wordsSigns Try.prog.initOrder.toList) = "cut".toList :: W := by
  rw [toList_of (s := Try.prog.initOrder) rfl]
  exact cons_of_head (by kernel_rfl)
theorem Try.mayEnter0 : Try.prog.mayEnter = true := by
  obtain ⟨W, h⟩ := Try.words
  exact mayEnter_cut h (by kernel_rfl) (by kernel_rfl) (by kernel_rfl)
theorem Try.lifts0 : Try.prog.liftsFinal = false := by
  obtain ⟨W, h⟩ := Try.words
  exact lifts_cut h
theorem Try.make0 : Try.prog.make = some .cut := by
  obtain ⟨W, h⟩ := Try.words
  exact make_cut h

theorem and_tt {a b : Bool} (h : a = true) (k : b = true) : (a && b) = true := by rw [h, k]; rfl
theorem lifted_tt {P : Program} {b : Bool} (h : P.liftsFinal = false) (hb : b = false) : (b == P.liftsFinal) = true := by rw [h, hb]; rfl
theorem make_tt {P : Program} {m : Make} (h : P.make = some .cut) (hm : m = .cut) : (P.make == some m) = true := by rw [h, hm]; rfl
end Go.Proofs.Ythiabicleedleaa

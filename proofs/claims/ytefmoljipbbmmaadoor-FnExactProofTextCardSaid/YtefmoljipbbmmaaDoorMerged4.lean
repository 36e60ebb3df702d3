/- Texts of a proof, merged: Starts, Truth, Helpers. -/
import Derived.Test.YtefmoljipbbmmaaDoorMarksS
import Derived.IntWalk
import Derived.Test.YtefmoljipbbmmaaDoorMerged0
import Derived.Test.YtefmoljipbbmmaaDoorPeople
import Derived.Lib.SmallJoins
/- Where a part of a row of marks begins; parts of rows. -/
namespace Go.Proofs.YtefmoljipbbmmaaDoor
open Go.RowKit

/-! ### how far a part reaches back -/
def dl (k : Int) : Int := if k ≤ 1 then -1 else if k = 2 then 0 else 1
def dsT (t : Tm) : List Int := t.post.reverse.map (fun m => dl m.1)
theorem dsT_un (t : Tm) : dsT (.un t) = 0 :: dsT t := by simp [dsT, Tm.post, dl]
theorem dsT_bin {k : Int} (a b : Tm) (hk : 3 ≤ k) : dsT (.bin k a b) = 1 :: (dsT b ++ dsT a) := by
  have h1 : ¬ k ≤ 1 := by omega
  have h2 : ¬ k = 2 := by omega
  simp [dsT, Tm.post, dl, h1, h2]
theorem dsT_len (t : Tm) : (dsT t).length = t.post.length := by simp [dsT]
theorem dsT_sum {p : Int} : ∀ t : Tm, t.ok p → (dsT t).sum = -1 ∧ ∀ j, j < (dsT t).length → 0 ≤ ((dsT t).take j).sum
  | .leaf k x, h => by
    have hk : k ≤ 1 := by simp only [Tm.ok] at h; omega
    have e : dsT (.leaf k x) = [-1] := by simp [dsT, Tm.post, dl, hk]
    rw [e]
    refine ⟨rfl, fun j hj => ?_⟩
    simp at hj
    subst hj
    simp
  | .un t, h => by
    obtain ⟨h1, h2⟩ := dsT_sum t (by simpa only [Tm.ok] using h)
    rw [dsT_un]
    refine ⟨by simp [h1], fun j hj => ?_⟩
    cases j with
    | zero => simp
    | succ j =>
      have := h2 j (by simp at hj; exact hj)
      simpa using this
  | .bin k a b, h => by
    simp only [Tm.ok] at h
    obtain ⟨hk, _, ha, hb⟩ := h
    obtain ⟨a1, a2⟩ := dsT_sum a ha
    obtain ⟨b1, b2⟩ := dsT_sum b hb
    rw [dsT_bin a b hk]
    refine ⟨by simp [a1, b1], fun j hj => ?_⟩
    cases j with
    | zero => simp
    | succ j =>
      simp at hj
      rw [List.take_succ_cons, List.sum_cons, List.take_append, List.sum_append]
      by_cases hjb : j < (dsT b).length
      · have := b2 j hjb
        rw [Nat.sub_eq_zero_of_le (by omega)]
        simp; omega
      · have := a2 (j - (dsT b).length) (by omega)
        rw [List.take_of_length_le (by omega), b1]
        omega
theorem dl_le (k : Int) : dl k ≤ 1 := by unfold dl; split <;> (try split) <;> omega
theorem sum_take_le : ∀ (l : List Int) (j : Nat), (∀ x ∈ l, x ≤ 1) → (l.take j).sum ≤ j
  | [], j, _ => by simp
  | x :: l, 0, _ => by simp
  | x :: l, j + 1, h => by
    have h1 := h x (by simp)
    have h2 := sum_take_le l j (fun y hy => h y (by simp [hy]))
    simp; omega
/-- the parts that are wanted once j marks have been passed, from the last one back -/
def nd (t : Tm) (j : Nat) : Int := 1 + ((dsT t).take j).sum
theorem nd_zero (t : Tm) : nd t 0 = 1 := by simp [nd]
theorem nd_all {p : Int} {t : Tm} (h : t.ok p) : nd t t.post.length = 0 := by
  obtain ⟨h1, _⟩ := dsT_sum t h
  unfold nd
  rw [List.take_of_length_le (by rw [dsT_len]; omega), h1]
  rfl
theorem nd_step {p : Int} {t : Tm} (h : t.ok p) {j : Nat} (hj : j < t.post.length) : 1 ≤ nd t j ∧ nd t j ≤ 1 + j ∧ nd t (j + 1) = nd t j + dl (t.post.getD (t.post.length - 1 - j) (0, 0)).1 := by
  obtain ⟨_, h2⟩ := dsT_sum t h
  have h3 := h2 j (by rw [dsT_len]; exact hj)
  have h4 := sum_take_le (dsT t) j (fun x hx => by
    simp only [dsT, List.mem_map] at hx
    obtain ⟨m, _, rfl⟩ := hx
    exact dl_le _)
  refine ⟨by unfold nd; omega, by unfold nd; omega, ?_⟩
  unfold nd
  rw [take_snoc 0 (dsT t) j (by rw [dsT_len]; exact hj), List.sum_append]
  have e : (dsT t).getD j 0 = dl (t.post.getD (t.post.length - 1 - j) (0, 0)).1 := by
    have hl : j < (dsT t).length := by rw [dsT_len]; exact hj
    rw [List.getD_eq_getElem?_getD, List.getElem?_eq_getElem hl, List.getD_eq_getElem?_getD, List.getElem?_eq_getElem (show t.post.length - 1 - j < t.post.length by omega)]
    simp [dsT]
  rw [e]
  simp
  omega

set_option maxRecDepth 100000 in
set_option maxHeartbeats 1000000 in
theorem specStarts (ms : List (Int × Int)) (P L : Nat) (f : Nat → Int) (E : Int) (hE : (P : Int) + L - 1 = E) (h0 : f 0 = 1) (hL : f L = 0)
    (hf : ∀ j, j < L → 1 ≤ f j ∧ f j ≤ 1 + j ∧ f (j + 1) = f j + dl (ms.getD (P + (L - 1 - j)) (0, 0)).1) (hPL : P + L ≤ ms.length) (hlen : ms.length ≤ 15)
    (B : Nat) (v : Value) (w : World) (hr : RdMarks w B v ms) :
    Calls Tryd.prog 88 #[v, .int .i64 E] w fun e w' => e = .returned (.int .i64 P) ∧ w = w' := by
  obtain ⟨ao, cap, rfl, hal, ham, hi0, hac0⟩ := hr
  have hac := Lib.hid hac0; clear hac0 hi0
  have H0 := Lib.hid h0; clear h0
  have HL := Lib.hid hL; clear hL
  have Hf := Lib.hid hf; clear hf
  have HE := Lib.hid hE; clear hE
  unfold maxLen at ham
  go_enter Tryd.func88, Tryd.ntmps88
  go_wp2_with fail
  go_loop [5, 6] (fun n i => ∃ j : Nat, j ≤ L ∧ n = .int .i64 (f j) ∧ i = .int .i64 (E - j))
    (fun _ i => (intOf i + 1).toNat)
  case atStart => exact ⟨0, Nat.zero_le _, by rw [H0.out], by simp⟩
  case round =>
    obtain ⟨j, hj, rfl, rfl⟩ := hrel
    by_cases hlt : j < L
    · obtain ⟨h1, h2, h3⟩ := Hf.out j hlt
      obtain ⟨K, hK⟩ : ∃ K : Nat, K = P + (L - 1 - j) := ⟨_, rfl⟩
      rw [← hK] at h3
      have hKE : E - (j : Int) = (K : Int) := by have := HE.out; omega
      have hKE' := Lib.hid hKE
      have hKm : K < ms.length := by omega
      have HN : Hid (E - ((j + 1 : Nat) : Int) = (K : Int) - 1) := by unfold Hid; omega
      rw [hKE]
      clear hKE hK
      obtain ⟨b, off, rfl, hb, hc1, hc2⟩ := hac.out K hKm
      generalize ms.getD K (0, 0) = m at *
      obtain ⟨kd, x⟩ := m
      dsimp only at hc1 hc2 h3
      generalize hy : f j = y at *
      have hyy := Lib.hid hy; clear hy
      have hK1 : IntKind.i64.wrap ((K : Int) - 1) = (K : Int) - 1 := IntWalk.i64_in _ (by omega)
      have hy1 : IntKind.i64.wrap (y - 1) = y - 1 := IntWalk.i64_in _ (by omega)
      have hy2 : IntKind.i64.wrap (y + 1) = y + 1 := IntWalk.i64_in _ (by omega)
      have hy0 : 0 < y := by omega
      by_cases hk1 : kd ≤ 1
      · have Hn : Hid (f (j + 1) = y - 1) := by unfold Hid; rw [h3]; simp [dl, hk1]; omega
        clear h3
        go_wp2
        go_round
        case rel => exact ⟨j + 1, by omega, by rw [Hn.out], by rw [HN.out]⟩
        case measure => first | (simp [intOf]; done) | (simp [intOf]; omega)
      · by_cases hk2 : kd = 2
        · subst hk2
          have Hn : Hid (f (j + 1) = y) := by unfold Hid; rw [h3]; simp [dl]
          clear h3
          go_wp2
          go_round
          case rel => exact ⟨j + 1, by omega, by rw [Hn.out], by rw [HN.out]⟩
          case measure => first | (simp [intOf]; done) | (simp [intOf]; omega)
        · have hk3 : 2 < kd := by omega
          have Hn : Hid (f (j + 1) = y + 1) := by unfold Hid; rw [h3]; simp [dl, hk1, hk2]
          clear h3
          have hk1' : 1 < kd := by omega
          go_wp2
          go_round
          case rel => exact ⟨j + 1, by omega, by rw [Hn.out], by rw [HN.out]⟩
          case measure => first | (simp [intOf]; done) | (simp [intOf]; omega)
    · obtain rfl : j = L := by omega
      rw [HL.out]
      have hw : E - (j : Int) = (P : Int) - 1 := by have := HE.out; omega
      rw [hw]
      clear hw
      have hP : IntKind.i64.wrap ((P : Int) - 1 + 1) = (P : Int) := by rw [IntWalk.i64_in _ (by omega)]; omega
      go_wp2
      go_ret
      exact ⟨ret_int (by omega), rfl⟩
/-! ### parts of rows, parts' texts -/
theorem RdMarks.cut {w : World} {B b off n cap m i : Nat} {ms pre sub suf : List (Int × Int)} (h : RdMarks w B (.slice (some ⟨b, off, none⟩) n cap) ms) (e : ms = pre ++ sub ++ suf) (hi : pre.length = i) (hm : sub.length = m) :
    RdMarks w B (.slice (some ⟨b, off + i * 2, none⟩) m (cap - i)) sub := by
  obtain ⟨ao, cap', hv, hl, hmx, hii, hc⟩ := h
  cases hv
  subst e; subst hi; subst hm
  simp only [List.length_append] at hl
  refine ⟨_, _, rfl, by omega, by unfold maxLen at *; omega, fun x hx => hii x (by simp [hx]), fun j hj => ?_⟩
  obtain ⟨b', off', he, hb, h1, h2⟩ := hc (pre.length + j) (by simp only [List.length_append]; omega)
  cases he
  have e : (pre ++ sub ++ suf).getD (pre.length + j) (0, 0) = sub.getD j (0, 0) := by
    rw [List.getD_eq_getElem?_getD, List.getElem?_append_left (by simp only [List.length_append]; omega), List.getElem?_append_right (by omega), Nat.add_sub_cancel_left, ← List.getD_eq_getElem?_getD]
  rw [e] at h1 h2
  exact ⟨b, _, rfl, hb, by rw [← h1]; congr 2; omega, by rw [← h2]; congr 2; omega⟩
theorem RdMarks.form {w : World} {B : Nat} {v : Value} {ms : List (Int × Int)} (h : RdMarks w B v ms) (hn : 0 < ms.length) : ∃ b off cap, v = .slice (some ⟨b, off, none⟩) ms.length cap ∧ ms.length ≤ cap ∧ cap ≤ maxLen ∧ b < B := by
  obtain ⟨ao, cap, rfl, hl, hm, _, hc⟩ := h
  obtain ⟨b, off, rfl, hb, _⟩ := hc 0 hn
  exact ⟨b, off, cap, rfl, hl, hm, hb⟩
theorem RdMarks.at {w : World} {B b off n cap j : Nat} {ms : List (Int × Int)} {m : Int × Int} (h : RdMarks w B (.slice (some ⟨b, off, none⟩) n cap) ms) (hj : j < ms.length) (hm : ms.getD j (0, 0) = m) :
    w.cell? ⟨b, off + j * 2, none⟩ = some (.int .i64 m.1) ∧ w.cell? ⟨b, off + j * 2 + 1, none⟩ = some (.int .i64 m.2) := by
  obtain ⟨ao, cap, hv, hl, _, _, hc⟩ := h
  cases hv
  obtain ⟨b', off', he, hb, h1, h2⟩ := hc j hj
  cases he
  rw [hm] at h1 h2
  exact ⟨h1, h2⟩
theorem post_pos (t : Tm) : 0 < t.post.length := by cases t <;> simp [Tm.post] <;> omega
end Go.Proofs.YtefmoljipbbmmaaDoor
/- What holds: terms in worlds, tables of terms, what follows, who matters: the mathematics, without code. -/
namespace Go.Proofs.YtefmoljipbbmmaaDoor
open Go.RowKit

/-- a term in a world -/
def holds (w : Nat) : Tm → Bool
  | .leaf k x => if k = 0 then w.testBit x.toNat else decide (x ≤ (heads w : Int))
  | .un t => !holds w t
  | .bin k a b => if k = 3 then holds w a && holds w b else if k = 4 then holds w a || holds w b else holds w a == holds w b
/-- the term that a row of marks is -/
def tmOf (p : Int) (ms : List (Int × Int)) : Tm := (termS p ms).getD (.leaf 1 0)
theorem tmOf_post {p : Int} {t : Tm} (ht : t.ok p) : tmOf p t.post = t := by
  unfold tmOf
  rw [(termS_some (p := p)).2 ⟨ht, rfl⟩]; rfl
def holdsV (p : Int) (ms : List (Int × Int)) (x : Int) : Bool := termOk p ms && wOk p x && holds x.toNat (tmOf p ms)
/-- the table of what f says, of N worlds -/
def tabF (N : Nat) (f : Nat → Bool) : Nat := tabOf ((List.range N).filter f)
theorem tabF_bit (N : Nat) (f : Nat → Bool) (j : Nat) : (tabF N f).testBit j = (decide (j < N) && f j) := by
  unfold tabF
  rw [tabOf_bit, Bool.eq_iff_iff]
  simp
theorem tabF_lt (N : Nat) (f : Nat → Bool) : tabF N f < 2 ^ N := tabOf_lt _ N (fun i hi => by simp at hi; exact hi.1)
theorem tabF_ext {N : Nat} {f g : Nat → Bool} : tabF N f = tabF N g ↔ ∀ j, j < N → f j = g j := by
  constructor
  · intro h j hj
    have := congrArg (fun x => x.testBit j) h
    simpa [tabF_bit, hj] using this
  · intro h
    refine bit_ext (tabF_lt N f) (tabF_lt N g) (fun j hj => ?_)
    rw [tabF_bit, tabF_bit, h j hj]
theorem tabF_succ (N : Nat) (f : Nat → Bool) : tabF (N + 1) f = if f N then tabF N f ||| 1 <<< N else tabF N f := by
  unfold tabF
  rw [List.range_succ, List.filter_append]
  by_cases h : f N = true
  · rw [if_pos h, ← tabOf_snoc]; simp [h]
  · rw [if_neg h]; simp [h]
def tabV (p : Int) (ms : List (Int × Int)) : Int := if termOk p ms = true then (tabF (2 ^ p.toNat) (fun w => holds w (tmOf p ms)) : Int) else -1
def sameV (p : Int) (a b : List (Int × Int)) : Bool := termOk p a && termOk p b && decide (tabV p a = tabV p b)
def followsV (p : Int) (a b : List (Int × Int)) : Bool := termOk p a && termOk p b && decide (∀ w, w < 2 ^ p.toNat → holds w (tmOf p a) = true → holds w (tmOf p b) = true)
def alwaysV (p : Int) (ms : List (Int × Int)) : Bool := termOk p ms && decide (∀ w, w < 2 ^ p.toNat → holds w (tmOf p ms) = true)
def matters (p : Int) (t : Tm) (k : Nat) : Bool := decide (∃ w, w < 2 ^ p.toNat ∧ holds w t ≠ holds (w ^^^ 1 <<< k) t)
def matterN (p : Int) (t : Tm) : Nat := tabF p.toNat (matters p t)
def matterV (p : Int) (ms : List (Int × Int)) : Int := if termOk p ms = true then (matterN p (tmOf p ms) : Int) else -1
theorem tabV_no {p : Int} {ms : List (Int × Int)} (h : termOk p ms = false) : tabV p ms = -1 := by simp [tabV, h]
theorem tabV_yes {p : Int} {ms : List (Int × Int)} (h : termOk p ms = true) : tabV p ms = (tabF (2 ^ p.toNat) (fun w => holds w (tmOf p ms)) : Int) := by simp [tabV, h]
theorem tabV_eq {p : Int} {a b : List (Int × Int)} (ha : termOk p a = true) (hb : termOk p b = true) : tabV p a = tabV p b ↔ ∀ w, w < 2 ^ p.toNat → holds w (tmOf p a) = holds w (tmOf p b) := by
  rw [tabV_yes ha, tabV_yes hb, ← tabF_ext]
  omega
/-! ### rows put together -/
theorem termOk_un {p : Int} {a : List (Int × Int)} (ha : termOk p a = true) : termOk p (a ++ [(2, 0)]) = decide (a.length ≤ 14) := by
  obtain ⟨hp, hl, t, ht, rfl⟩ := termOk_iff.1 ha
  have he : t.post ++ [((2 : Int), (0 : Int))] = (Tm.un t).post := rfl
  by_cases h : t.post.length ≤ 14
  · rw [he, decide_eq_true h]
    exact termOk_iff.2 ⟨hp, by simp [Tm.post]; omega, .un t, by simpa only [Tm.ok] using ht, rfl⟩
  · rw [decide_eq_false h]
    exact termOk_no_len (by simp; omega)
theorem tmOf_un {p : Int} {a : List (Int × Int)} (ha : termOk p a = true) : tmOf p (a ++ [(2, 0)]) = .un (tmOf p a) := by
  obtain ⟨hp, hl, t, ht, rfl⟩ := termOk_iff.1 ha
  have he : t.post ++ [((2 : Int), (0 : Int))] = (Tm.un t).post := rfl
  rw [tmOf_post ht, he, tmOf_post (by simpa only [Tm.ok] using ht)]
theorem termOk_bin {p k : Int} {a b : List (Int × Int)} (hk : 3 ≤ k ∧ k ≤ 5) (ha : termOk p a = true) (hb : termOk p b = true) : termOk p (a ++ b ++ [(k, 0)]) = decide (a.length + b.length ≤ 14) := by
  obtain ⟨hp, hl, t, ht, rfl⟩ := termOk_iff.1 ha
  obtain ⟨_, _, u, hu, rfl⟩ := termOk_iff.1 hb
  have he : t.post ++ u.post ++ [((k : Int), (0 : Int))] = (Tm.bin k t u).post := rfl
  by_cases h : t.post.length + u.post.length ≤ 14
  · rw [he, decide_eq_true h]
    exact termOk_iff.2 ⟨hp, by simp [Tm.post]; omega, .bin k t u, by simp only [Tm.ok]; exact ⟨hk.1, hk.2, ht, hu⟩, rfl⟩
  · rw [decide_eq_false h]
    exact termOk_no_len (by simp; omega)
theorem tmOf_bin {p k : Int} {a b : List (Int × Int)} (hk : 3 ≤ k ∧ k ≤ 5) (ha : termOk p a = true) (hb : termOk p b = true) : tmOf p (a ++ b ++ [(k, 0)]) = .bin k (tmOf p a) (tmOf p b) := by
  obtain ⟨hp, hl, t, ht, rfl⟩ := termOk_iff.1 ha
  obtain ⟨_, _, u, hu, rfl⟩ := termOk_iff.1 hb
  have he : t.post ++ u.post ++ [((k : Int), (0 : Int))] = (Tm.bin k t u).post := rfl
  rw [tmOf_post ht, tmOf_post hu, he, tmOf_post (by simp only [Tm.ok]; exact ⟨hk.1, hk.2, ht, hu⟩)]
theorem termOk_count {p x : Int} (hp : 1 ≤ p ∧ p ≤ 4) (hx : 0 ≤ x ∧ x ≤ p + 1) : termOk p [(1, x)] = true :=
  termOk_iff.2 ⟨hp, by simp, .leaf 1 x, by simp only [Tm.ok]; right; refine ⟨trivial, hx.1, ?_⟩; omega, rfl⟩
theorem tmOf_count {p x : Int} (_hp : 1 ≤ p ∧ p ≤ 4) (hx : 0 ≤ x ∧ x ≤ p + 1) : tmOf p [(1, x)] = .leaf 1 x :=
  tmOf_post (t := .leaf 1 x) (by simp only [Tm.ok]; right; refine ⟨trivial, hx.1, ?_⟩; omega)
/-! ### the laws of what holds -/
theorem holds_un (w : Nat) (t : Tm) : holds w (.un t) = !holds w t := by rw [holds]
theorem holds_and (w : Nat) (a b : Tm) : holds w (.bin 3 a b) = (holds w a && holds w b) := by rw [holds, if_pos rfl]
theorem holds_or (w : Nat) (a b : Tm) : holds w (.bin 4 a b) = (holds w a || holds w b) := by rw [holds, if_neg (by decide), if_pos rfl]
theorem holds_same (w : Nat) (a b : Tm) : holds w (.bin 5 a b) = (holds w a == holds w b) := by rw [holds, if_neg (by decide), if_neg (by decide)]
theorem holds_none (w : Nat) : holds w (.leaf 1 0) = true := by rw [holds, if_neg (by decide)]; simp
theorem same_follows {p : Int} {a b : List (Int × Int)} (ha : termOk p a = true) (hb : termOk p b = true) : sameV p a b = (followsV p a b && followsV p b a) := by
  unfold sameV followsV
  rw [ha, hb]
  simp only [Bool.true_and]
  rw [← Bool.decide_and, decide_eq_decide, tabV_eq ha hb]
  constructor
  · intro h
    exact ⟨fun w hw h1 => by rw [← h w hw]; exact h1, fun w hw h1 => by rw [h w hw]; exact h1⟩
  · rintro ⟨h1, h2⟩ w hw
    rw [Bool.eq_iff_iff]
    exact ⟨h1 w hw, h2 w hw⟩
theorem same_always {p : Int} {a b : List (Int × Int)} (ha : termOk p a = true) (hb : termOk p b = true) (h : termOk p (a ++ b ++ [(5, 0)]) = true) : alwaysV p (a ++ b ++ [(5, 0)]) = sameV p a b := by
  unfold alwaysV sameV
  rw [ha, hb, h, tmOf_bin (by omega) ha hb]
  simp only [Bool.true_and]
  rw [decide_eq_decide, tabV_eq ha hb]
  simp only [holds_same, beq_iff_eq]
theorem same_refl {p : Int} {a : List (Int × Int)} (ha : termOk p a = true) : sameV p a a = true := by simp [sameV, ha]
theorem follows_or {p : Int} {a b : List (Int × Int)} (ha : termOk p a = true) (hb : termOk p b = true) (h : termOk p (a ++ b ++ [(4, 0)]) = true) : sameV p (a ++ b ++ [(4, 0)]) b = followsV p a b := by
  unfold followsV sameV
  rw [ha, hb, h]
  simp only [Bool.true_and]
  rw [decide_eq_decide, tabV_eq h hb, tmOf_bin (by omega) ha hb]
  simp only [holds_or]
  refine forall_congr' fun w => forall_congr' fun _ => ?_
  cases holds w (tmOf p a) <;> cases holds w (tmOf p b) <;> simp
theorem follows_refl {p : Int} {a : List (Int × Int)} (ha : termOk p a = true) : followsV p a a = true := by simp [followsV, ha]
theorem p_of {p : Int} {a : List (Int × Int)} (ha : termOk p a = true) : 1 ≤ p ∧ p ≤ 4 := (termOk_iff.1 ha).1
theorem follows_none {p : Int} {a : List (Int × Int)} (ha : termOk p a = true) : followsV p a [(1, 0)] = true := by
  have hp := p_of ha
  unfold followsV
  rw [ha, termOk_count hp (by omega), tmOf_count hp (by omega)]
  simp [holds_none]
theorem always_none {p : Int} (hp : 1 ≤ p ∧ p ≤ 4) : alwaysV p [(1, 0)] = true := by
  unfold alwaysV
  rw [termOk_count hp (by omega), tmOf_count hp (by omega)]
  simp [holds_none]
theorem not_holds {p : Int} {a : List (Int × Int)} (ha : termOk p a = true) (h : termOk p (a ++ [(2, 0)]) = true) {x : Int} (hx : wOk p x = true) : holdsV p (a ++ [(2, 0)]) x = !holdsV p a x := by
  unfold holdsV
  rw [ha, h, hx, tmOf_un ha, holds_un]
  simp
/-- neither is both not -/
theorem not_either {p : Int} {a b : List (Int × Int)} (ha : termOk p a = true) (hb : termOk p b = true) (h1 : termOk p (a ++ b ++ [(4, 0)] ++ [(2, 0)]) = true) (h2 : termOk p (a ++ [(2, 0)] ++ (b ++ [(2, 0)]) ++ [(3, 0)]) = true) : sameV p (a ++ b ++ [(4, 0)] ++ [(2, 0)]) (a ++ [(2, 0)] ++ (b ++ [(2, 0)]) ++ [(3, 0)]) = true := by
  have hl1 := (termOk_iff.1 h1).2.1
  have hl2 := (termOk_iff.1 h2).2.1
  simp only [List.length_append, List.length_cons, List.length_nil] at hl1 hl2
  have h3 : termOk p (a ++ b ++ [(4, 0)]) = true := by rw [termOk_bin (by omega) ha hb]; simp; omega
  have h4 : termOk p (a ++ [(2, 0)]) = true := by rw [termOk_un ha]; simp; omega
  have h5 : termOk p (b ++ [(2, 0)]) = true := by rw [termOk_un hb]; simp; omega
  unfold sameV
  rw [h1, h2]
  simp only [Bool.true_and]
  rw [decide_eq_true_eq, tabV_eq h1 h2, tmOf_un h3, tmOf_bin (by omega) ha hb, tmOf_bin (by omega) h4 h5, tmOf_un ha, tmOf_un hb]
  intro w _
  rw [holds_un, holds_or, holds_and, holds_un, holds_un]
  simp
end Go.Proofs.YtefmoljipbbmmaaDoor
/- Contracts of the laws' own helpers over lists of numbers. -/
namespace Go.Proofs.YtefmoljipbbmmaaDoor
open Go.RowKit Go.Joins

def ints (zs : List Int) : List Value := zs.map (Value.int .i64)
theorem grownBy_setCell {w : World} (g j : Nat) (u : Value) : w.grownBy (w.setCell ⟨g, j, none⟩ u) (some g) :=
  ⟨rfl, rfl, rfl, by simp [World.setCell], fun k _ hne => Below.heap_setCell _ _ _ _ (by intro e; exact hne (by rw [e]))⟩
theorem grownBy_trans {a b c : World} {row : Option Nat} (h : a.grownBy b row) (k : b.grownBy c row) : a.grownBy c row :=
  ⟨k.os.trans h.os, k.tape.trans h.tape, k.output.trans h.output, Nat.le_trans h.size k.size, fun i hi hne => (k.block i (Nat.lt_of_lt_of_le hi h.size) hne).trans (h.block i hi hne)⟩
theorem grownBy_drewN {a b : World} {row : Option Nat} (h : a.grownBy b row) (n : Nat) : a.grownBy (b.drewN n) row :=
  grownBy_trans h ⟨rfl, rfl, rfl, Nat.le_refl _, fun _ _ _ => rfl⟩

/-! ### equality of two lists of numbers -/
theorem list_eq_of {xs ys : List Int} (hl : xs.length = ys.length) (h : ∀ j, j < xs.length → xs.getD j 0 = ys.getD j 0) : xs = ys := by
  refine List.ext_getElem hl fun j h1 h2 => ?_
  have := h j h1
  simpa [List.getD, h1, h2] using this
theorem ints_set_mid (A R : List Int) (z x : Int) (k : Nat) (hk : A.length = k) : (ints (A ++ z :: R)).set k (.int .i64 x) = ints (A ++ x :: R) := by
  subst hk
  have h1 : (A.map (Value.int .i64)).length = A.length := by simp
  unfold ints
  rw [List.map_append, List.map_append, List.map_cons, List.map_cons, List.set_append_right _ _ (by omega), h1, Nat.sub_self]
  rfl
theorem mark_set (zs : List Int) (k0 k : Nat) (hk : k < zs.length) :
    (ints (((List.range k).map fun j => ((k0 + j : Nat) : Int)) ++ zs.drop k)).set k (.int .i64 ((k0 + k : Nat) : Int)) = ints (((List.range (k+1)).map fun j => ((k0 + j : Nat) : Int)) ++ zs.drop (k + 1)) := by
  rw [List.drop_eq_getElem_cons hk, List.range_succ, List.map_append, List.append_assoc]
  exact ints_set_mid _ _ _ _ _ (by simp)
theorem copy_set (zs : List Int) (n k : Nat) (hn : zs.length = n) (hk : k < n) :
    (ints (zs.take k ++ List.replicate (n - k) 0)).set k (.int .i64 (zs.getD k 0)) = ints (zs.take (k + 1) ++ List.replicate (n - (k + 1)) 0) := by
  have hr : List.replicate (n - k) (0 : Int) = 0 :: List.replicate (n - (k + 1)) 0 := by
    rw [show n - k = (n - (k + 1)) + 1 from by omega]; rfl
  rw [hr, List.take_succ_eq_append_getElem (by omega), show zs.getD k 0 = zs[k] from by simp [List.getD, show k < zs.length by omega], List.append_assoc]
  exact ints_set_mid _ _ _ _ _ (by simp; omega)








end Go.Proofs.YtefmoljipbbmmaaDoor

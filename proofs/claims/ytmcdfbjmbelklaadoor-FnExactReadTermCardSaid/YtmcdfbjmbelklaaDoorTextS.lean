/- Contract of the reference's text of a term. -/
import Derived.Test.YtmcdfbjmbelklaaDoorTextT
import Derived.Test.YtmcdfbjmbelklaaDoorMarksS
import Derived.Laws.IdiomStrings
namespace Go.Proofs.YtmcdfbjmbelklaaDoor
open Go.RowKit

/-! ### how far a part reaches back -/
def dl (k : Int) : Int := if k ≤ 1 then -1 else if k = 2 then 0 else 1
def dsT (t : Tm) : List Int := t.post.reverse.map (fun m => dl m.1)
theorem dsT_un (t : Tm) : dsT (.un t) = 0 :: dsT t := by simp [dsT, Tm.post, dl]
theorem dsT_bin {k : Int} (a b : Tm) (hk : 3 ≤ k) : dsT (.bin k a b) = 1 :: (dsT b ++ dsT a) := by
  have h1 : ¬ k ≤ 1 := by omega
  have h2 : ¬ k = 2 := by omega
  simp [dsT, Tm.post, dl, h1, h2]
theorem dsT_len (t : Tm) : (dsT t).length = t.post.length := by simp [dsT]
theorem dsT_sum {p : Int} : ∀ t : Tm, t.ok p → (dsT t).sum = -1 ∧ ∀ j, j < (dsT t).length → 0 ≤ ((dsT t).take j).sum
  | .leaf k x, h => by
    have hk : k ≤ 1 := by simp only [Tm.ok] at h; omega
    have e : dsT (.leaf k x) = [-1] := by simp [dsT, Tm.post, dl, hk]
    rw [e]
    refine ⟨rfl, fun j hj => ?_⟩
    simp at hj
    subst hj
    simp
  | .un t, h => by
    obtain ⟨h1, h2⟩ := dsT_sum t (by simpa only [Tm.ok] using h)
    rw [dsT_un]
    refine ⟨by simp [h1], fun j hj => ?_⟩
    cases j with
    | zero => simp
    | succ j =>
      have := h2 j (by simp at hj; exact hj)
      simpa using this
  | .bin k a b, h => by
    simp only [Tm.ok] at h
    obtain ⟨hk, _, ha, hb⟩ := h
    obtain ⟨a1, a2⟩ := dsT_sum a ha
    obtain ⟨b1, b2⟩ := dsT_sum b hb
    rw [dsT_bin a b hk]
    refine ⟨by simp [a1, b1], fun j hj => ?_⟩
    cases j with
    | zero => simp
    | succ j =>
      simp at hj
      rw [List.take_succ_cons, List.sum_cons, List.take_append, List.sum_append]
      by_cases hjb : j < (dsT b).length
      · have := b2 j hjb
        rw [Nat.sub_eq_zero_of_le (by omega)]
        simp; omega
      · have := a2 (j - (dsT b).length) (by omega)
        rw [List.take_of_length_le (by omega), b1]
        omega
theorem dl_le (k : Int) : dl k ≤ 1 := by unfold dl; split <;> (try split) <;> omega
theorem sum_take_le : ∀ (l : List Int) (j : Nat), (∀ x ∈ l, x ≤ 1) → (l.take j).sum ≤ j
  | [], j, _ => by simp
  | x :: l, 0, _ => by simp
  | x :: l, j + 1, h => by
    have h1 := h x (by simp)
    have h2 := sum_take_le l j (fun y hy => h y (by simp [hy]))
    simp; omega
/-- the parts that are wanted once j marks have been passed, from the last one back -/
def nd (t : Tm) (j : Nat) : Int := 1 + ((dsT t).take j).sum
theorem nd_zero (t : Tm) : nd t 0 = 1 := by simp [nd]
theorem nd_all {p : Int} {t : Tm} (h : t.ok p) : nd t t.post.length = 0 := by
  obtain ⟨h1, _⟩ := dsT_sum t h
  unfold nd
  rw [List.take_of_length_le (by rw [dsT_len]; omega), h1]
  rfl
theorem nd_step {p : Int} {t : Tm} (h : t.ok p) {j : Nat} (hj : j < t.post.length) : 1 ≤ nd t j ∧ nd t j ≤ 1 + j ∧ nd t (j + 1) = nd t j + dl (t.post.getD (t.post.length - 1 - j) (0, 0)).1 := by
  obtain ⟨_, h2⟩ := dsT_sum t h
  have h3 := h2 j (by rw [dsT_len]; exact hj)
  have h4 := sum_take_le (dsT t) j (fun x hx => by
    simp only [dsT, List.mem_map] at hx
    obtain ⟨m, _, rfl⟩ := hx
    exact dl_le _)
  refine ⟨by unfold nd; omega, by unfold nd; omega, ?_⟩
  unfold nd
  rw [take_snoc 0 (dsT t) j (by rw [dsT_len]; exact hj), List.sum_append]
  have e : (dsT t).getD j 0 = dl (t.post.getD (t.post.length - 1 - j) (0, 0)).1 := by
    have hl : j < (dsT t).length := by rw [dsT_len]; exact hj
    rw [List.getD_eq_getElem?_getD, List.getElem?_eq_getElem hl, List.getD_eq_getElem?_getD, List.getElem?_eq_getElem (show t.post.length - 1 - j < t.post.length by omega)]
    simp [dsT]
  rw [e]
  simp
  omega

theorem cv1 (w : World) (b : UInt8) (n : Int) (hn : (b.toNat : Int) = n) :
    (convert 22 9 (.slice (some ⟨w.heap.size, 0, none⟩) 1 1)).run Tryd.prog (w.alloc (.cells #[.int .u8 n] 5)) = .ok (sv [b]) (w.alloc (.cells #[.int .u8 n] 5)) := by
  subst hn
  exact run_convert_bytes_back (P := Tryd.prog) (w.alloc (.cells #[.int .u8 b.toNat] 5)) 22 9 5 ⟨w.heap.size, 0, none⟩ 1 [b] Tryd.underlying22 Tryd.underlying5 Tryd.underlying9 (fun j hj => by
    obtain rfl : j = 0 := by simpa using hj
    exact World.cell?_alloc_mark w #[.int .u8 b.toNat] 5 _ 0)
set_option maxRecDepth 100000 in
set_option maxHeartbeats 1000000 in
theorem specNumber (x : Int) (hx : 0 ≤ x ∧ x ≤ 5) (w : World) :
    Calls Tryd.prog 44 #[.int .i64 x] w fun e w' => e = .returned (sv [UInt8.ofNat (48 + x.toNat)]) ∧ Below w.heap.size w w' := by
  have h : x = 0 ∨ x = 1 ∨ x = 2 ∨ x = 3 ∨ x = 4 ∨ x = 5 := by omega
  clear hx
  rcases h with rfl | rfl | rfl | rfl | rfl | rfl
  all_goals
    have c0 := cv1 w 48 48 rfl
    have c1 := cv1 w 49 49 rfl
    have c2 := cv1 w 50 50 rfl
    have c3 := cv1 w 51 51 rfl
    have c4 := cv1 w 52 52 rfl
    have c5 := cv1 w 53 53 rfl
    go_enter Tryd.func44, Tryd.ntmps44
    go_wp2
    go_ret
    exact ⟨rfl, (Below.refl _ _).alloc (Nat.le_refl _) _⟩
set_option maxRecDepth 100000 in
set_option maxHeartbeats 1000000 in
theorem specStarts (ms : List (Int × Int)) (P L : Nat) (f : Nat → Int) (E : Int) (hE : (P : Int) + L - 1 = E) (h0 : f 0 = 1) (hL : f L = 0)
    (hf : ∀ j, j < L → 1 ≤ f j ∧ f j ≤ 1 + j ∧ f (j + 1) = f j + dl (ms.getD (P + (L - 1 - j)) (0, 0)).1) (hPL : P + L ≤ ms.length) (hlen : ms.length ≤ 15)
    (B : Nat) (v : Value) (w : World) (hr : RdMarks w B v ms) :
    Calls Tryd.prog 46 #[v, .int .i64 E] w fun e w' => e = .returned (.int .i64 P) ∧ w = w' := by
  obtain ⟨ao, cap, rfl, hal, ham, hi0, hac0⟩ := hr
  have hac := Lib.hid hac0; clear hac0 hi0
  have H0 := Lib.hid h0; clear h0
  have HL := Lib.hid hL; clear hL
  have Hf := Lib.hid hf; clear hf
  have HE := Lib.hid hE; clear hE
  unfold maxLen at ham
  go_enter Tryd.func46, Tryd.ntmps46
  go_wp2_with fail
  go_loop [5, 6] (fun n i => ∃ j : Nat, j ≤ L ∧ n = .int .i64 (f j) ∧ i = .int .i64 (E - j))
    (fun _ i => (intOf i + 1).toNat)
  case atStart => exact ⟨0, Nat.zero_le _, by rw [H0.out], by simp⟩
  case round =>
    obtain ⟨j, hj, rfl, rfl⟩ := hrel
    by_cases hlt : j < L
    · obtain ⟨h1, h2, h3⟩ := Hf.out j hlt
      obtain ⟨K, hK⟩ : ∃ K : Nat, K = P + (L - 1 - j) := ⟨_, rfl⟩
      rw [← hK] at h3
      have hKE : E - (j : Int) = (K : Int) := by have := HE.out; omega
      have hKE' := Lib.hid hKE
      have hKm : K < ms.length := by omega
      have HN : Hid (E - ((j + 1 : Nat) : Int) = (K : Int) - 1) := by unfold Hid; omega
      rw [hKE]
      clear hKE hK
      obtain ⟨b, off, rfl, hb, hc1, hc2⟩ := hac.out K hKm
      generalize ms.getD K (0, 0) = m at *
      obtain ⟨kd, x⟩ := m
      dsimp only at hc1 hc2 h3
      generalize hy : f j = y at *
      have hyy := Lib.hid hy; clear hy
      have hK1 : IntKind.i64.wrap ((K : Int) - 1) = (K : Int) - 1 := IntWalk.i64_in _ (by omega)
      have hy1 : IntKind.i64.wrap (y - 1) = y - 1 := IntWalk.i64_in _ (by omega)
      have hy2 : IntKind.i64.wrap (y + 1) = y + 1 := IntWalk.i64_in _ (by omega)
      have hy0 : 0 < y := by omega
      by_cases hk1 : kd ≤ 1
      · have Hn : Hid (f (j + 1) = y - 1) := by unfold Hid; rw [h3]; simp [dl, hk1]; omega
        clear h3
        go_wp2
        go_round
        case rel => exact ⟨j + 1, by omega, by rw [Hn.out], by rw [HN.out]⟩
        case measure => first | (simp [intOf]; done) | (simp [intOf]; omega)
      · by_cases hk2 : kd = 2
        · subst hk2
          have Hn : Hid (f (j + 1) = y) := by unfold Hid; rw [h3]; simp [dl]
          clear h3
          go_wp2
          go_round
          case rel => exact ⟨j + 1, by omega, by rw [Hn.out], by rw [HN.out]⟩
          case measure => first | (simp [intOf]; done) | (simp [intOf]; omega)
        · have hk3 : 2 < kd := by omega
          have Hn : Hid (f (j + 1) = y + 1) := by unfold Hid; rw [h3]; simp [dl, hk1, hk2]
          clear h3
          have hk1' : 1 < kd := by omega
          go_wp2
          go_round
          case rel => exact ⟨j + 1, by omega, by rw [Hn.out], by rw [HN.out]⟩
          case measure => first | (simp [intOf]; done) | (simp [intOf]; omega)
    · obtain rfl : j = L := by omega
      rw [HL.out]
      have hw : E - (j : Int) = (P : Int) - 1 := by have := HE.out; omega
      rw [hw]
      clear hw
      have hP : IntKind.i64.wrap ((P : Int) - 1 + 1) = (P : Int) := by rw [IntWalk.i64_in _ (by omega)]; omega
      go_wp2
      go_ret
      exact ⟨ret_int (by omega), rfl⟩
set_option maxHeartbeats 1000000 in
theorem specBinds (ms : List (Int × Int)) (kd : Int) (n : Nat) (hn : ms.length = n + 1) (hk : (ms.getD n (0, 0)).1 = kd) (hkd : 0 ≤ kd ∧ kd ≤ 5) (B : Nat) (v : Value) (w : World) (hr : RdMarks w B v ms) :
    Calls Tryd.prog 47 #[v] w fun e w' => e = .returned (.int .i64 (if 5 - kd ≤ 3 then 5 - kd else 3)) ∧ w = w' := by
  obtain ⟨ao, cap, rfl, hal, ham, hi0, hac⟩ := hr
  clear hi0
  obtain ⟨b, off, rfl, hb, hc1, hc2⟩ := hac n (by omega)
  clear hac
  unfold maxLen at ham
  rw [hk] at hc1
  clear hk
  generalize ms.length = N at *
  have hi1 : IntKind.i64.wrap ((N : Int) - 1) = (n : Int) := by rw [IntWalk.i64_in _ (by omega)]; omega
  have hi2 : (0 : Int) ≤ (n : Int) := by omega
  have hi3 : (n : Int) < (N : Int) := by omega
  have hi4 : n < N := by omega
  have HN := Lib.hid hn; clear hn
  have hw := IntWalk.i64_in (5 - kd) (by omega)
  by_cases h : 5 - kd ≤ 3
  · rw [if_pos h]
    go_enter Tryd.func47, Tryd.ntmps47
    go_wp2
    go_ret
    exact ⟨ret_int (by omega), rfl⟩
  · rw [if_neg h]
    have h' : 3 ≤ 5 - kd := by omega
    have h'' : 3 < 5 - kd := by omega
    go_enter Tryd.func47, Tryd.ntmps47
    go_wp2
    go_ret
    exact ⟨ret_int (by omega), rfl⟩

/-! ### parts of rows, parts' texts -/
theorem RdMarks.cut {w : World} {B b off n cap m i : Nat} {ms pre sub suf : List (Int × Int)} (h : RdMarks w B (.slice (some ⟨b, off, none⟩) n cap) ms) (e : ms = pre ++ sub ++ suf) (hi : pre.length = i) (hm : sub.length = m) :
    RdMarks w B (.slice (some ⟨b, off + i * 2, none⟩) m (cap - i)) sub := by
  obtain ⟨ao, cap', hv, hl, hmx, hii, hc⟩ := h
  cases hv
  subst e; subst hi; subst hm
  simp only [List.length_append] at hl
  refine ⟨_, _, rfl, by omega, by unfold maxLen at *; omega, fun x hx => hii x (by simp [hx]), fun j hj => ?_⟩
  obtain ⟨b', off', he, hb, h1, h2⟩ := hc (pre.length + j) (by simp only [List.length_append]; omega)
  cases he
  have e : (pre ++ sub ++ suf).getD (pre.length + j) (0, 0) = sub.getD j (0, 0) := by
    rw [List.getD_eq_getElem?_getD, List.getElem?_append_left (by simp only [List.length_append]; omega), List.getElem?_append_right (by omega), Nat.add_sub_cancel_left, ← List.getD_eq_getElem?_getD]
  rw [e] at h1 h2
  exact ⟨b, _, rfl, hb, by rw [← h1]; congr 2; omega, by rw [← h2]; congr 2; omega⟩
theorem RdMarks.form {w : World} {B : Nat} {v : Value} {ms : List (Int × Int)} (h : RdMarks w B v ms) (hn : 0 < ms.length) : ∃ b off cap, v = .slice (some ⟨b, off, none⟩) ms.length cap ∧ ms.length ≤ cap ∧ cap ≤ maxLen ∧ b < B := by
  obtain ⟨ao, cap, rfl, hl, hm, _, hc⟩ := h
  obtain ⟨b, off, rfl, hb, _⟩ := hc 0 hn
  exact ⟨b, off, cap, rfl, hl, hm, hb⟩
theorem RdMarks.at {w : World} {B b off n cap j : Nat} {ms : List (Int × Int)} {m : Int × Int} (h : RdMarks w B (.slice (some ⟨b, off, none⟩) n cap) ms) (hj : j < ms.length) (hm : ms.getD j (0, 0) = m) :
    w.cell? ⟨b, off + j * 2, none⟩ = some (.int .i64 m.1) ∧ w.cell? ⟨b, off + j * 2 + 1, none⟩ = some (.int .i64 m.2) := by
  obtain ⟨ao, cap, hv, hl, _, _, hc⟩ := h
  cases hv
  obtain ⟨b', off', he, hb, h1, h2⟩ := hc j hj
  cases he
  rw [hm] at h1 h2
  exact ⟨h1, h2⟩
theorem last_bound {p : Int} : ∀ {t : Tm}, t.ok p → 0 ≤ t.last ∧ t.last ≤ 5
  | .leaf k x, h => by simp only [Tm.ok] at h; simp only [Tm.last]; omega
  | .un t, _ => by simp [Tm.last]
  | .bin k a b, h => by simp only [Tm.ok] at h; simp only [Tm.last]; omega
theorem post_pos (t : Tm) : 0 < t.post.length := by cases t <;> simp [Tm.post] <;> omega
theorem post_last : ∀ t : Tm, (t.post.getD (t.post.length - 1) (0, 0)).1 = t.last
  | .leaf k x => rfl
  | .un t => by simp [Tm.post, Tm.last, List.getD_eq_getElem?_getD]
  | .bin k a b => by simp [Tm.post, Tm.last, List.getD_eq_getElem?_getD]
/-- the reference's text of this term, wherever its marks stand -/
def TextC (t : Tm) : Prop := ∀ (B : Nat) (v : Value) (w : World), RdMarks w B v t.post → B ≤ w.heap.size →
  Calls Tryd.prog 30 #[v] w fun e w' => e = .returned (sv (txt t)) ∧ Below w.heap.size w w'
set_option maxHeartbeats 1000000 in
theorem specHeld {p : Int} {t : Tm} (ht : t.ok p) (hlen : t.post.length ≤ 15) (ih : TextC t) (d m : Int) (hd : 0 ≤ d ∧ d ≤ 3) (hm : m = 5 - d) (B : Nat) (v : Value) (w : World) (hr : RdMarks w B v t.post) (hB : B ≤ w.heap.size) :
    Calls Tryd.prog 45 #[v, .int .i64 d] w fun e w' => e = .returned (sv (within (txt t) t.last m)) ∧ Below w.heap.size w w' := by
  have hlb := last_bound ht
  have hpos := post_pos t
  have hbd := fun W (h : RdMarks W B v t.post) => specBinds t.post t.last (t.post.length - 1) (by omega) (post_last t) hlb B v W h
  have htl := txt_len t
  have Ih := Lib.hid ih; clear ih
  have Hbd := Lib.hid hbd; clear hbd
  have Hr := Lib.hid hr; clear hr
  have hw : Hid (within (txt t) t.last m = if m < t.last then 40 :: (txt t ++ [41]) else txt t) := rfl
  have Htxt := fun W (h : RdMarks W B v t.post) (hB : B ≤ W.heap.size) => Ih.out B v W h hB
  have HTxt := Lib.hid Htxt; clear Htxt Ih
  rw [hw.out]
  clear hw
  generalize t.last = k at *
  have hlt : (txt t).length ≤ 75 := by omega
  clear htl
  generalize txt t = T at *
  have hz : ¬ 9223372036854775807 < 1 + T.length := by omega
  have hz2 : ¬ 9223372036854775807 < 1 + T.length + 1 := by omega
  have hz3 : ¬ 9223372036854775807 < T.length + 1 := by omega
  have hz4 : ¬ 9223372036854775807 < T.length + 1 + 1 := by omega
  by_cases h : m < k
  · rw [if_pos h]
    have hD : (if 5 - k ≤ 3 then 5 - k else 3) < d := by split <;> omega
    generalize (if 5 - k ≤ 3 then 5 - k else 3) = D at *
    clear hlb hpos hd hm h
    go_enter Tryd.func45, Tryd.ntmps45
    go_wp2_with fail
    refine (Hbd.out _ Hr.out).mono ?_
    rintro e w' ⟨rfl, rfl⟩
    go_wp2_with fail
    refine (HTxt.out _ Hr.out hB).mono ?_
    rintro e w' ⟨rfl, hb⟩
    have Hb := Lib.hid hb; clear hb
    go_wp2
    go_ret
    exact ⟨congrArg (fun s => Ending.returned (.string s)) (by rw [show (⟨#[40]⟩ : ByteArray) = ⟨[40].toArray⟩ from rfl, show (⟨#[41]⟩ : ByteArray) = ⟨[41].toArray⟩ from rfl, bs_append, bs_append]; simp), Hb.out⟩
  · rw [if_neg h]
    have hD : ¬ (if 5 - k ≤ 3 then 5 - k else 3) < d := by split <;> omega
    generalize (if 5 - k ≤ 3 then 5 - k else 3) = D at *
    have hD' : d ≤ D := by omega
    clear hlb hpos hd hm h hD
    go_enter Tryd.func45, Tryd.ntmps45
    go_wp2_with fail
    refine (Hbd.out _ Hr.out).mono ?_
    rintro e w' ⟨rfl, rfl⟩
    go_wp2_with fail
    refine (HTxt.out _ Hr.out hB).mono ?_
    rintro e w' ⟨rfl, hb⟩
    have Hb := Lib.hid hb; clear hb
    go_wp2
    go_ret
    exact ⟨rfl, Hb.out⟩
attribute [local irreducible] txt within
theorem abcd_at : ∀ x : Int, 0 ≤ x → x ≤ 3 → (⟨#[97, 98, 99, 100]⟩ : ByteArray).extract x.toNat (x + 1).toNat = ⟨[UInt8.ofNat (97 + x.toNat)].toArray⟩ := by
  intro x h0 h3
  have h : x = 0 ∨ x = 1 ∨ x = 2 ∨ x = 3 := by omega
  rcases h with rfl | rfl | rfl | rfl <;> decide
set_option maxRecDepth 100000 in
set_option maxHeartbeats 1000000 in
theorem specText_leaf {p : Int} (hp : p ≤ 4) (k x : Int) (ht : (Tm.leaf k x).ok p) : TextC (.leaf k x) := by
  intro B v w hr hB
  obtain ⟨b, off, cap, rfl, hl, hm, hb⟩ := hr.form (by simp [Tm.post])
  obtain ⟨hc1, hc2⟩ := hr.at (j := 0) (m := (k, x)) (by simp [Tm.post]) rfl
  rw [Nat.zero_mul, Nat.add_zero] at hc1 hc2
  dsimp only at hc1 hc2
  simp only [Tm.post, List.length_singleton] at hl
  have hN : (Tm.leaf k x).post.length = 1 := rfl
  rw [hN]
  clear hN hr
  unfold maxLen at hm
  simp only [Tm.ok] at ht
  rcases ht with ⟨rfl, h0, h1⟩ | ⟨rfl, h0, h1⟩
  · have hx : x = 0 ∨ x = 1 ∨ x = 2 ∨ x = 3 := by omega
    rw [txt_leaf0]
    clear h0 h1
    rcases hx with rfl | rfl | rfl | rfl
    all_goals
      go_enter Tryd.func30, Tryd.ntmps30
      go_wp2_with fail
      go_quiet (fail)
      go_wp2
      go_ret
      exact ⟨by first | rfl | exact congrArg (fun s => Ending.returned (.string s)) (abcd_at _ (by omega) (by omega)), by first | exact Below.refl _ _ | exact below_undrewY (Below.refl _ _) | exact below_undrewX (Below.refl _ _) | exact ⟨rfl, rfl, rfl, Nat.le_refl _, fun _ _ => rfl⟩⟩
  · have hit := specNumber x (by omega)
    rw [txt_leaf1]
    generalize UInt8.ofNat (48 + x.toNat) = c at *
    have Hit := Lib.hid hit; clear hit
    go_enter Tryd.func30, Tryd.ntmps30
    go_wp2_with fail
    refine (Hit.out _).mono ?_
    rintro e w' ⟨rfl, hb1⟩
    go_wp2
    go_ret
    exact ⟨rfl, hb1⟩
set_option maxRecDepth 100000 in
set_option maxHeartbeats 1000000 in
theorem specText_un {p : Int} (t : Tm) (ht : t.ok p) (hlen : t.post.length ≤ 14) (ih : TextC t) : TextC (.un t) := by
  intro B v w hr hB
  have hpl : (Tm.un t).post.length = t.post.length + 1 := by simp [Tm.post]
  obtain ⟨b, off, cap, rfl, hl, hm, hb⟩ := hr.form (by omega)
  obtain ⟨hc1, hc2⟩ := hr.at (j := t.post.length) (m := (2, 0)) (by omega) (by simp [Tm.post, List.getD_eq_getElem?_getD])
  have hra := hr.cut (pre := []) (sub := t.post) (suf := [(2, 0)]) (i := 0) (by simp [Tm.post]) rfl rfl
  rw [Nat.zero_mul, Nat.add_zero, Nat.sub_zero] at hra
  have hpos := post_pos t
  dsimp only at hc1 hc2
  have hh := fun W h hB => specHeld ht (by omega) ih 3 2 (by omega) (by omega) B (.slice (some ⟨b, off, none⟩) t.post.length cap) W h hB
  have hwl := within_len (txt t) t.last 2
  have htl := txt_len t
  rw [txt_un]
  rw [hpl] at *
  clear hpl hr
  unfold maxLen at hm
  generalize within (txt t) t.last 2 = T at *
  have Hh := Lib.hid hh; clear hh
  have Hra := Lib.hid hra; clear hra
  have hz : ¬ 9223372036854775807 < 1 + T.length := by omega
  have hz3 : ¬ 9223372036854775807 < T.length + 1 := by omega
  clear hwl htl ih
  generalize t.post.length = L at *
  obtain ⟨N, hN⟩ : ∃ N, N = L + 1 := ⟨_, rfl⟩
  rw [← hN] at hl ⊢
  have hi1 : IntKind.i64.wrap ((N : Int) - 1) = (L : Int) := by rw [IntWalk.i64_in _ (by omega)]; omega
  have hi2 : (0 : Int) ≤ (L : Int) := by omega
  have hi3 : (L : Int) < (N : Int) := by omega
  have hi4 : L < N := by omega
  have hi5 : (L : Int) ≤ (cap : Int) := by omega
  have hi6 : L ≤ cap := by omega
  have hi7 : ¬ cap = 0 := by omega
  have HN := Lib.hid hN; clear hN
  go_enter Tryd.func30, Tryd.ntmps30
  go_wp2_with fail
  refine (Hh.out _ Hra.out hB).mono ?_
  rintro e w' ⟨rfl, hb1⟩
  have Hb := Lib.hid hb1; clear hb1
  go_wp2
  go_ret
  exact ⟨congrArg (fun s => Ending.returned (.string s)) (by rw [show (⟨#[33]⟩ : ByteArray) = ⟨[33].toArray⟩ from rfl, bs_append]; simp), Hb.out⟩
theorem sign_at3 : (⟨#[38, 124, 61]⟩ : ByteArray).extract 0 1 = ⟨[sign 3].toArray⟩ := by decide
theorem sign_at4 : (⟨#[38, 124, 61]⟩ : ByteArray).extract 1 2 = ⟨[sign 4].toArray⟩ := by decide
theorem sign_at5 : (⟨#[38, 124, 61]⟩ : ByteArray).extract 2 3 = ⟨[sign 5].toArray⟩ := by decide
set_option maxRecDepth 100000 in
set_option maxHeartbeats 1000000 in
theorem specText_bin {p : Int} (k : Int) (t u : Tm) (hk : 3 ≤ k ∧ k ≤ 5) (ht : t.ok p) (hu : u.ok p) (hlen : t.post.length + u.post.length ≤ 14) (iht : TextC t) (ihu : TextC u) : TextC (.bin k t u) := by
  intro B v w hr hB
  have hpl : (Tm.bin k t u).post.length = t.post.length + u.post.length + 1 := by simp [Tm.post]; omega
  obtain ⟨b, off, cap, rfl, hl, hm, hb⟩ := hr.form (by omega)
  have hpost : (Tm.bin k t u).post = t.post ++ u.post ++ [(k, 0)] := rfl
  obtain ⟨hc1, hc2⟩ := hr.at (j := t.post.length + u.post.length) (m := (k, 0)) (by omega) (by
    rw [hpost, List.getD_eq_getElem?_getD, List.getElem?_append_right (by simp), List.length_append, Nat.sub_self]; rfl)
  obtain ⟨S, hS⟩ : ∃ S, S = t.post.length + u.post.length := ⟨_, rfl⟩
  have hra := hr.cut (pre := []) (sub := t.post) (suf := u.post ++ [(k, 0)]) (i := 0) (by rw [hpost]; simp) rfl rfl
  have hrb := hr.cut (pre := t.post) (sub := u.post) (suf := [(k, 0)]) (i := t.post.length) (m := S - t.post.length) (by rw [hpost]) rfl (by omega)
  rw [Nat.zero_mul, Nat.add_zero, Nat.sub_zero] at hra
  have hpos := post_pos t
  have hpos2 := post_pos u
  dsimp only at hc1 hc2
  obtain ⟨E, hE⟩ : ∃ E : Int, (t.post.length : Int) + u.post.length - 1 = E := ⟨_, rfl⟩
  have hst := fun W (h : RdMarks W B (.slice (some ⟨b, off, none⟩) (Tm.bin k t u).post.length cap) (Tm.bin k t u).post) => specStarts (Tm.bin k t u).post t.post.length u.post.length (nd u) E hE (nd_zero u) (nd_all hu) (fun j hj => by
    have h1 := nd_step hu hj
    rw [hpost, List.getD_eq_getElem?_getD, List.getElem?_append_left (by simp only [List.length_append]; omega), List.getElem?_append_right (by omega), Nat.add_sub_cancel_left, ← List.getD_eq_getElem?_getD]
    exact h1) (by omega) (by omega) B _ W h
  have hbd := fun W (h : RdMarks W B (.slice (some ⟨b, off, none⟩) (Tm.bin k t u).post.length cap) (Tm.bin k t u).post) => specBinds (Tm.bin k t u).post k (t.post.length + u.post.length) hpl (by
    rw [hpost, List.getD_eq_getElem?_getD, List.getElem?_append_right (by simp), List.length_append, Nat.sub_self]; rfl) (by omega) B _ W h
  rw [if_pos (by omega)] at hbd
  have hha := fun W h hB => specHeld ht (by omega) iht (5 - k) k (by omega) (by omega) B (.slice (some ⟨b, off, none⟩) t.post.length cap) W h hB
  have hhb := fun W h hB => specHeld hu (by omega) ihu (6 - k) (k - 1) (by omega) (by omega) B (.slice (some ⟨b, off + t.post.length * 2, none⟩) (S - t.post.length) (cap - t.post.length)) W h hB
  have hwl := within_len (txt t) t.last k
  have htl := txt_len t
  have hwl2 := within_len (txt u) u.last (k - 1)
  have htl2 := txt_len u
  rw [txt_bin]
  have hm1 : (within (txt t) t.last k).length ≤ 80 := by omega
  have hm2 : (within (txt u) u.last (k - 1)).length ≤ 80 := by omega
  clear hwl htl hwl2 htl2 iht ihu hpost
  generalize within (txt t) t.last k = M1 at *
  generalize within (txt u) u.last (k - 1) = M2 at *
  have Hr := Lib.hid hr; clear hr
  rw [hpl] at *
  clear hpl
  unfold maxLen at hm
  have Hha := Lib.hid hha; clear hha
  have Hhb := Lib.hid hhb; clear hhb
  have Hst := Lib.hid hst; clear hst
  have Hbd := Lib.hid hbd; clear hbd
  have Hra := Lib.hid hra; clear hra
  have Hrb := Lib.hid hrb; clear hrb
  have hz1 : ¬ 9223372036854775807 < M1.length + 1 := by omega
  have hz2 : ¬ 9223372036854775807 < M1.length + 1 + M2.length := by omega
  rw [← hS] at hl hc1 hc2 Hst Hbd Hr hlen ⊢
  generalize t.post.length = LA at *
  generalize u.post.length = LB at *
  obtain ⟨N, hN⟩ : ∃ N, N = S + 1 := ⟨_, rfl⟩
  rw [← hN] at hl Hst Hbd Hr ⊢
  have hi1 : IntKind.i64.wrap ((N : Int) - 1) = (S : Int) := by rw [IntWalk.i64_in _ (by omega)]; omega
  have hj1 : IntKind.i64.wrap ((S : Int) - 1) = E := by rw [IntWalk.i64_in _ (by omega)]; omega
  have hi2 : (0 : Int) ≤ (S : Int) := by omega
  have hi3 : (S : Int) < (N : Int) := by omega
  have hi4 : S < N := by omega
  have hi5 : (S : Int) ≤ (cap : Int) := by omega
  have hi6 : S ≤ cap := by omega
  have hi7 : ¬ cap = 0 := by omega
  have hi8 : ¬ cap = LA := by omega
  have hi9 : (0 : Int) ≤ (LA : Int) := by omega
  have hia : (LA : Int) ≤ (S : Int) := by omega
  have hib : LA ≤ S := by omega
  have hic : (LA : Int) ≤ (cap : Int) := by omega
  have hid : LA ≤ cap := by omega
  have HN := Lib.hid hN; clear hN
  have HS := Lib.hid hS; clear hS
  have HE := Lib.hid hE; clear hE
  clear hpos hpos2 hlen hl
  have hk' : k = 3 ∨ k = 4 ∨ k = 5 := by omega
  clear hk
  rcases hk' with rfl | rfl | rfl
  · rw [show (5 : Int) - 3 = 2 from rfl] at Hbd Hha
    rw [show (6 : Int) - 3 = 3 from rfl] at Hhb
    have hsz : (⟨[sign 3].toArray⟩ : ByteArray).size = 1 := rfl
    have hsg := sign_at3
    have hv0 : IntKind.i64.wrap 0 = 0 := rfl
    have hv1 : IntKind.i64.wrap 1 = 1 := rfl
    have hv2 : IntKind.i64.wrap 2 = 2 := rfl
    have hv3 : IntKind.i64.wrap 3 = 3 := rfl
    go_enter Tryd.func30, Tryd.ntmps30
    go_wp2_with fail
    refine (Hst.out _ Hr.out).mono ?_
    rintro e w' ⟨rfl, rfl⟩
    go_wp2_with fail
    refine (Hbd.out _ Hr.out).mono ?_
    rintro e w' ⟨rfl, rfl⟩
    go_wp2_with fail
    go_region_held3 (fun _ => True)
      (first | go_keep | trivial)
      (first
        | (go_at_call 45
           (with_reducible refine (Hha.out _ ?_ ?_).mono ?_)
           · exact Hra.out
           · exact hB
           rintro e w5 ⟨rfl, hb5'⟩
           go_must (have hb5 : Below w.heap.size w w5 := by first | exact hb5' | exact below_undrewY hb5' | exact below_undrewX hb5'
                    clear hb5'
                    have Hrb5 := Lib.hid (Hrb.out.below (fun q hq => hb5.block q (by omega)))
                    have hB5 : B ≤ w5.heap.size := by have := hb5.size; omega
                    have Hb5 := Lib.hid hb5
                    clear hb5))
        | (go_at_call 45
           (with_reducible refine (Hhb.out _ ?_ ?_).mono ?_)
           · exact Hrb5.out
           · exact hB5
           rintro e w6 ⟨rfl, hb6'⟩
           go_must (have hb6 : Below w5.heap.size w5 w6 := by first | exact hb6' | exact below_undrewY hb6' | exact below_undrewX hb6'
                    clear hb6'
                    have Hb6 := Lib.hid (Hb5.out.trans (hb6.mono Hb5.out.size))
                    clear hb6))
        | fail)
    go_wp2
    go_ret
    refine ⟨congrArg (fun s => Ending.returned (.string s)) ?_, Hb6.out⟩
    first | (rw [bs_append, bs_append]; simp; done) | (rw [hsg, bs_append, bs_append]; simp; done)
  · rw [show (5 : Int) - 4 = 1 from rfl] at Hbd Hha
    rw [show (6 : Int) - 4 = 2 from rfl] at Hhb
    have hsz : (⟨[sign 4].toArray⟩ : ByteArray).size = 1 := rfl
    have hsg := sign_at4
    have hv0 : IntKind.i64.wrap 0 = 0 := rfl
    have hv1 : IntKind.i64.wrap 1 = 1 := rfl
    have hv2 : IntKind.i64.wrap 2 = 2 := rfl
    have hv3 : IntKind.i64.wrap 3 = 3 := rfl
    go_enter Tryd.func30, Tryd.ntmps30
    go_wp2_with fail
    refine (Hst.out _ Hr.out).mono ?_
    rintro e w' ⟨rfl, rfl⟩
    go_wp2_with fail
    refine (Hbd.out _ Hr.out).mono ?_
    rintro e w' ⟨rfl, rfl⟩
    go_wp2_with fail
    go_region_held3 (fun _ => True)
      (first | go_keep | trivial)
      (first
        | (go_at_call 45
           (with_reducible refine (Hha.out _ ?_ ?_).mono ?_)
           · exact Hra.out
           · exact hB
           rintro e w5 ⟨rfl, hb5'⟩
           go_must (have hb5 : Below w.heap.size w w5 := by first | exact hb5' | exact below_undrewY hb5' | exact below_undrewX hb5'
                    clear hb5'
                    have Hrb5 := Lib.hid (Hrb.out.below (fun q hq => hb5.block q (by omega)))
                    have hB5 : B ≤ w5.heap.size := by have := hb5.size; omega
                    have Hb5 := Lib.hid hb5
                    clear hb5))
        | (go_at_call 45
           (with_reducible refine (Hhb.out _ ?_ ?_).mono ?_)
           · exact Hrb5.out
           · exact hB5
           rintro e w6 ⟨rfl, hb6'⟩
           go_must (have hb6 : Below w5.heap.size w5 w6 := by first | exact hb6' | exact below_undrewY hb6' | exact below_undrewX hb6'
                    clear hb6'
                    have Hb6 := Lib.hid (Hb5.out.trans (hb6.mono Hb5.out.size))
                    clear hb6))
        | fail)
    go_wp2
    go_ret
    refine ⟨congrArg (fun s => Ending.returned (.string s)) ?_, Hb6.out⟩
    first | (rw [bs_append, bs_append]; simp; done) | (rw [hsg, bs_append, bs_append]; simp; done)
  · rw [show (5 : Int) - 5 = 0 from rfl] at Hbd Hha
    rw [show (6 : Int) - 5 = 1 from rfl] at Hhb
    have hsz : (⟨[sign 5].toArray⟩ : ByteArray).size = 1 := rfl
    have hsg := sign_at5
    have hv0 : IntKind.i64.wrap 0 = 0 := rfl
    have hv1 : IntKind.i64.wrap 1 = 1 := rfl
    have hv2 : IntKind.i64.wrap 2 = 2 := rfl
    have hv3 : IntKind.i64.wrap 3 = 3 := rfl
    go_enter Tryd.func30, Tryd.ntmps30
    go_wp2_with fail
    refine (Hst.out _ Hr.out).mono ?_
    rintro e w' ⟨rfl, rfl⟩
    go_wp2_with fail
    refine (Hbd.out _ Hr.out).mono ?_
    rintro e w' ⟨rfl, rfl⟩
    go_wp2_with fail
    go_region_held3 (fun _ => True)
      (first | go_keep | trivial)
      (first
        | (go_at_call 45
           (with_reducible refine (Hha.out _ ?_ ?_).mono ?_)
           · exact Hra.out
           · exact hB
           rintro e w5 ⟨rfl, hb5'⟩
           go_must (have hb5 : Below w.heap.size w w5 := by first | exact hb5' | exact below_undrewY hb5' | exact below_undrewX hb5'
                    clear hb5'
                    have Hrb5 := Lib.hid (Hrb.out.below (fun q hq => hb5.block q (by omega)))
                    have hB5 : B ≤ w5.heap.size := by have := hb5.size; omega
                    have Hb5 := Lib.hid hb5
                    clear hb5))
        | (go_at_call 45
           (with_reducible refine (Hhb.out _ ?_ ?_).mono ?_)
           · exact Hrb5.out
           · exact hB5
           rintro e w6 ⟨rfl, hb6'⟩
           go_must (have hb6 : Below w5.heap.size w5 w6 := by first | exact hb6' | exact below_undrewY hb6' | exact below_undrewX hb6'
                    clear hb6'
                    have Hb6 := Lib.hid (Hb5.out.trans (hb6.mono Hb5.out.size))
                    clear hb6))
        | fail)
    go_wp2
    go_ret
    refine ⟨congrArg (fun s => Ending.returned (.string s)) ?_, Hb6.out⟩
    first | (rw [bs_append, bs_append]; simp; done) | (rw [hsg, bs_append, bs_append]; simp; done)
theorem specTextC {p : Int} (hp : p ≤ 4) : ∀ t : Tm, t.ok p → t.post.length ≤ 15 → TextC t
  | .leaf k x, h, _ => specText_leaf hp k x h
  | .un t, h, hl => by
    have h' : t.ok p := by simpa only [Tm.ok] using h
    have hl' : t.post.length ≤ 14 := by simp [Tm.post] at hl; omega
    exact specText_un t h' hl' (specTextC hp t h' (by omega))
  | .bin k a b, h, hl => by
    simp only [Tm.ok] at h
    obtain ⟨h3, h5, ha, hb⟩ := h
    have hl' : a.post.length + b.post.length ≤ 14 := by simp [Tm.post] at hl; omega
    exact specText_bin k a b ⟨h3, h5⟩ ha hb hl' (specTextC hp a ha (by omega)) (specTextC hp b hb (by omega))
set_option maxHeartbeats 1000000 in
theorem specTermText (p : Int) (ms : List (Int × Int)) (B : Nat) (v : Value) (w : World) (hr : RdMarks w B v ms) (hB : B ≤ w.heap.size) :
    Calls Tryd.prog 10 #[.int .i64 p, v] w fun e w' => e = .returned (sv (textV p ms)) ∧ Below w.heap.size w w' := by
  by_cases hok : termOk p ms = true
  case neg =>
    have Hok : Hid (termOk p ms = false) := by simpa [Hid] using hok
    clear hok
    go_enter Tryd.func10, Tryd.ntmps10
    go_wp2_with fail
    refine (specTermOk _ _ _ _ _ hr).mono ?_
    rintro e w' ⟨rfl, rfl⟩
    rw [Hok.out]
    go_wp2
    go_ret
    exact ⟨by rw [textV_no Hok.out]; rfl, Below.refl _ _⟩
  have Hok := Lib.hid hok; clear hok
  obtain ⟨⟨hp1, hp4⟩, hlen15, t, ht, hpost⟩ := termOk_iff.1 Hok.out
  subst hpost
  have Htxt : Hid (textV p t.post = txt t) := textV_of Hok.out ht
  have hlen : t.post.length ≤ 15 := by unfold Hid at *; omega
  have hc := fun (B : Nat) (v : Value) (W : World) h hB => specTextC hp4 t ht hlen B v W h hB
  rw [Htxt.out]
  clear Htxt
  generalize txt t = T at *
  have Hc := Lib.hid hc; clear hc
  go_enter Tryd.func10, Tryd.ntmps10
  go_wp2_with fail
  refine (specTermOk _ _ _ _ _ hr).mono ?_
  rintro e w' ⟨rfl, rfl⟩
  rw [Hok.out]
  go_wp2_with fail
  refine (Hc.out _ _ _ hr hB).mono ?_
  rintro e w' ⟨rfl, hb⟩
  have Hb := Lib.hid hb; clear hb
  go_wp2
  go_ret
  exact ⟨rfl, Hb.out⟩
end Go.Proofs.YtmcdfbjmbelklaaDoor

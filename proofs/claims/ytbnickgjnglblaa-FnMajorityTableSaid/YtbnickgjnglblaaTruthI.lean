/- Contracts of the program's truth of terms: HoldsIn, TableOf, SameOk, FollowsOk, AlwaysOk, MatterIn. -/
import Derived.Test.YtbnickgjnglblaaMerged9
import Derived.Test.YtbnickgjnglblaaMerged11
namespace Go.Proofs.Ytbnickgjnglblaa
open Go.RowKit
/-- the last part of a row: what it tells in a world, and the marks ahead of it -/
def PartAt (f : Nat) (p : Int) (t : Tm) : Prop := ∀ (W : Nat) (pre : List (Int × Int)) (n B b off cap : Nat) (w : World), W < 16 → wOk p W = true → n = pre.length + t.post.length → n ≤ 15 →
  RdMarks w B (.slice (some ⟨b, off, none⟩) n cap) (pre ++ t.post) → B ≤ w.heap.size →
  Calls Try.prog f #[.int .i64 p, .slice (some ⟨b, off, none⟩) n cap, .int .i64 W] w fun e w' => e = .returned (.tuple #[.bool (holds W t), .slice (some ⟨b, off, none⟩) pre.length cap]) ∧ Below w.heap.size w w'
theorem ret_part {a b : Bool} {v : Value} (h : a = b) : Ending.returned (.tuple #[.bool a, v]) = .returned (.tuple #[.bool b, v]) := by rw [h]
def joinV (k : Int) (a b : Bool) : Bool := if k = 3 then a && b else if k = 4 then a || b else a == b
attribute [local irreducible] holds heads tabN tabV holdsV sameV followsV alwaysV matterV
set_option maxHeartbeats 1000000 in
theorem implJoined (k : Int) (a b : Bool) (hk : 3 ≤ k ∧ k ≤ 5) (w : World) :
    Calls Try.prog 45 #[.int .i64 k, .bool a, .bool b] w fun e w' => e = .returned (.bool (joinV k a b)) ∧ w = w' := by
  have hk' : k = 3 ∨ k = 4 ∨ k = 5 := by omega
  clear hk
  rcases hk' with rfl | rfl | rfl
  all_goals
    cases a <;> cases b
    all_goals
      go_enter Try.func45, Try.ntmps45
      go_wp2
      go_ret
      exact ⟨rfl, rfl⟩
theorem part_num {S N cap : Nat} (hN : N = S + 1) (hcap : N ≤ cap) (hm : cap ≤ maxLen) :
    IntKind.i64.wrap ((N : Int) - 1) = (S : Int) ∧ (0 : Int) ≤ (S : Int) ∧ (S : Int) < (N : Int) ∧ S < N ∧ (S : Int) ≤ (cap : Int) ∧ S ≤ cap ∧ ¬ cap = 0 := by
  unfold maxLen at hm
  refine ⟨?_, by omega, by omega, by omega, by omega, by omega, by omega⟩
  rw [IntWalk.i64_in _ (by omega)]; omega
theorem tb_and {W : Nat} (hW : W < 16) : (bits BinOp.and IntKind.i64 (W : Int) 1 == 1) = W.testBit 0 ∧ (bits BinOp.and IntKind.i64 ((W : Int) / 2) 1 == 1) = W.testBit 1 ∧ (bits BinOp.and IntKind.i64 ((W : Int) / 4) 1 == 1) = W.testBit 2 ∧ (bits BinOp.and IntKind.i64 ((W : Int) / 8) 1 == 1) = W.testBit 3 := by
  have h : ∀ V : Fin 16, (bits BinOp.and IntKind.i64 (V.val : Int) 1 == 1) = V.val.testBit 0 ∧ (bits BinOp.and IntKind.i64 ((V.val : Int) / 2) 1 == 1) = V.val.testBit 1 ∧ (bits BinOp.and IntKind.i64 ((V.val : Int) / 4) 1 == 1) = V.val.testBit 2 ∧ (bits BinOp.and IntKind.i64 ((V.val : Int) / 8) 1 == 1) = V.val.testBit 3 := by decide +kernel
  exact h ⟨W, hW⟩
theorem below_drew {B : Nat} {a w : World} (h : Below B a w) : Below B a w.drew := h.trans ⟨rfl, rfl, rfl, Nat.le_refl _, fun _ _ => rfl⟩
theorem new_mark (w : World) (k x : Int) (T : TypeId) : ∃ w1 : World, w1 = w.alloc (.cells #[.int .i64 k, .int .i64 x] T) ∧ w1.cell? ⟨w.heap.size, 0, none⟩ = some (.int .i64 k) ∧ w1.cell? ⟨w.heap.size, 1, none⟩ = some (.int .i64 x) ∧ Below w.heap.size w w1 ∧ w.heap.size < w1.heap.size := by
  refine ⟨_, rfl, ?_, ?_, (Below.refl _ _).alloc (Nat.le_refl _) _, by simp⟩
  · have := cell_of_row (w.alloc (.cells #[.int .i64 k, .int .i64 x] T)) w.heap.size 0 _ T (0, 0) (heap_alloc_new w _)
    rw [this]; rfl
  · have := cell_of_row (w.alloc (.cells #[.int .i64 k, .int .i64 x] T)) w.heap.size 1 _ T (0, 0) (heap_alloc_new w _)
    rw [this]; rfl
/-- of a row that is not empty: where its last mark stands -/
theorem last_at {w : World} {B b off n cap S : Nat} {ms : List (Int × Int)} {m : Int × Int} (hr : RdMarks w B (.slice (some ⟨b, off, none⟩) n cap) ms) (hn : n = S + 1) (hl : ms.length = S + 1) (hm : ms.getD S (0, 0) = m) :
    n ≤ cap ∧ cap ≤ maxLen ∧ b < B ∧ w.cell? ⟨b, off + S * 2, none⟩ = some (.int .i64 m.1) ∧ w.cell? ⟨b, off + S * 2 + 1, none⟩ = some (.int .i64 m.2) := by
  obtain ⟨hc1, hc2⟩ := hr.at (j := S) (m := m) (by omega) hm
  obtain ⟨b', off', cap', he, h1, h2, h3⟩ := hr.form (by omega)
  cases he
  exact ⟨by omega, h2, h3, hc1, hc2⟩
set_option maxRecDepth 100000 in
set_option maxHeartbeats 1000000 in
theorem lastPart_leaf {p : Int} (hp : p ≤ 4) (k x : Int) (ht : (Tm.leaf k x).ok p) : PartAt 41 p (.leaf k x) := by
  intro W pre n B b off cap w hW hw hn hn15 hr hB
  have hn' : n = pre.length + 1 := by rw [hn]; simp [Tm.post]
  clear hn
  obtain ⟨hcap, hm, hb, hc1, hc2⟩ := last_at hr hn' (by simp [Tm.post]) (m := (k, x)) (by simp [Tm.post, List.getD_eq_getElem?_getD])
  dsimp only at hc1 hc2
  clear hr
  generalize pre.length = S at *
  obtain ⟨hi1, hi2, hi3, hi4, hi5, hi6, hi7⟩ := part_num hn' hcap hm
  unfold maxLen at hm
  have Hn := Lib.hid hn'; clear hn'
  have hhd := heads_small hW
  have Hd := Lib.hid (fun w => implTellersIn_yes p W hw w)
  rw [Int.toNat_natCast] at Hd
  clear hw
  have Htb := Lib.hid (tb_and hW)
  have Ho : Hid (holds W (.leaf k x) = if k = 0 then W.testBit x.toNat else decide (x ≤ (heads W : Int))) := by unfold Hid; rw [holds]
  generalize holds W (.leaf k x) = o at *
  generalize heads W = H at *
  go_enter Try.func41, Try.ntmps41
  go_wp2_with fail
  go_region_held3 (fun w' => w'.cell? ⟨b, off + S * 2, none⟩ = some (.int .i64 k) ∧ w'.cell? ⟨b, off + S * 2 + 1, none⟩ = some (.int .i64 x))
    (first | (refine ⟨?_, ?_⟩ <;> first | go_keep | assumption) | assumption)
    (fail)
  obtain ⟨w1, hw1, hn1, hn2, hbw, hsz⟩ := new_mark w k x TM
  rw [← hw1]
  have Hbw := Lib.hid hbw; clear hbw hw1
  simp only [Tm.ok] at ht
  rcases ht with ⟨rfl, h0, h1⟩ | ⟨rfl, h0, h1⟩
  · have hx : x = 0 ∨ x = 1 ∨ x = 2 ∨ x = 3 := by omega
    clear h0 h1
    rcases hx with rfl | rfl | rfl | rfl
    all_goals
      go_wp2
      go_ret2
      have ho := Ho.out
      simp only [if_true] at ho
      exact ⟨ret_part (by rw [ho]; first | exact Htb.out.1 | exact Htb.out.2.1 | exact Htb.out.2.2.1 | exact Htb.out.2.2.2), by first | exact Hbw.out | exact below_drew Hbw.out | exact below_drewN Hbw.out _ | exact below_drew (below_drew Hbw.out)⟩
  · clear h0 h1
    go_wp2_with fail
    go_region_held3 (fun w' => w'.cell? ⟨w.heap.size, 1, none⟩ = some (.int .i64 x))
      (first | go_keep | assumption)
      (first
        | (go_at_call 22
           (with_reducible refine (Hd.out _).mono ?_)
           rintro e w' ⟨rfl, rfl⟩)
        | fail)
    go_wp2
    go_ret2
    have ho := Ho.out
    simp only [show ¬ (1 : Int) = 0 by decide, if_false] at ho
    exact ⟨ret_part (by first | (rw [ho]; done) | (rw [ho]; exact decide_eq_decide.2 (by omega))), by first | exact Hbw.out | exact below_drew Hbw.out | exact below_drewN Hbw.out _ | exact below_drew (below_drew Hbw.out)⟩
set_option maxRecDepth 100000 in
set_option maxHeartbeats 1000000 in
theorem lastPart_un {p : Int} (t : Tm) (_ht : t.ok p) (ih : PartAt 41 p t) : PartAt 41 p (.un t) := by
  intro W pre n B b off cap w hW hw hn hn15 hr hB
  have hpost : pre ++ (Tm.un t).post = (pre ++ t.post) ++ [(2, 0)] := by simp [Tm.post]
  obtain ⟨S, hS⟩ : ∃ S, S = pre.length + t.post.length := ⟨_, rfl⟩
  have hn' : n = S + 1 := by rw [hn, hS]; simp [Tm.post]; omega
  clear hn
  rw [hpost] at hr
  obtain ⟨hcap, hm, hb, hc1, hc2⟩ := last_at hr hn' (by simp [hS]; try omega) (m := (2, 0)) (by rw [List.getD_eq_getElem?_getD, List.getElem?_append_right (by simp [hS])]; simp [hS])
  have hra := hr.cut (pre := []) (sub := pre ++ t.post) (suf := [(2, 0)]) (i := 0) (m := S) (by simp) rfl (by simp [hS])
  rw [Nat.zero_mul, Nat.add_zero, Nat.sub_zero] at hra
  dsimp only at hc1 hc2
  clear hr hpost
  have Ih := Lib.hid (fun w h hB => ih W pre S B b off cap w hW hw hS (by omega) h hB)
  clear ih hw
  obtain ⟨hi1, hi2, hi3, hi4, hi5, hi6, hi7⟩ := part_num hn' hcap hm
  unfold maxLen at hm
  have Hn := Lib.hid hn'; clear hn'
  have HS := Lib.hid hS; clear hS
  have Hra := Lib.hid hra; clear hra
  rw [holds_un]
  generalize holds W t = o at *
  generalize pre.length = L at *
  go_enter Try.func41, Try.ntmps41
  go_wp2_with fail
  go_region_held3 (fun w' => w'.cell? ⟨b, off + S * 2, none⟩ = some (.int .i64 2) ∧ w'.cell? ⟨b, off + S * 2 + 1, none⟩ = some (.int .i64 0))
    (first | (refine ⟨?_, ?_⟩ <;> first | go_keep | assumption) | assumption)
    (fail)
  obtain ⟨w1, hw1, hn1, hn2, hbw, hsz⟩ := new_mark w 2 0 TM
  rw [← hw1]
  have Hra1 := Lib.hid (Hra.out.below (w' := w1) (fun q hq => hbw.block q (by omega)))
  have hB1 : B ≤ w1.heap.size := by omega
  have Hbw := Lib.hid hbw; clear hbw hw1
  go_wp2_with fail
  refine (Ih.out _ (by exact Hra1.out) (by exact hB1)).mono ?_
  rintro e w2 ⟨rfl, hb2'⟩
  have hb2 : Below w1.heap.size w1 w2 := by first | exact hb2' | exact below_undrewS hb2' | exact below_undrewN hb2'
  have Hb2 := Lib.hid (Hbw.out.trans (hb2.mono Hbw.out.size))
  clear hb2 hb2'
  go_wp2
  go_ret2
  exact ⟨rfl, by first | exact Hb2.out | exact below_drew Hb2.out | exact below_drewN Hb2.out _ | exact below_drew (below_drew Hb2.out)⟩
set_option maxRecDepth 100000 in
set_option maxHeartbeats 2000000 in
theorem lastPart_bin {p : Int} (k : Int) (t u : Tm) (hk : 3 ≤ k ∧ k ≤ 5) (iht : PartAt 41 p t) (ihu : PartAt 41 p u) : PartAt 41 p (.bin k t u) := by
  intro W pre n B b off cap w hW hw hn hn15 hr hB
  have hpost : pre ++ (Tm.bin k t u).post = (pre ++ t.post ++ u.post) ++ [(k, 0)] := by simp [Tm.post]
  obtain ⟨M, hM⟩ : ∃ M, M = pre.length + t.post.length := ⟨_, rfl⟩
  obtain ⟨S, hS⟩ : ∃ S, S = (pre ++ t.post).length + u.post.length := ⟨_, rfl⟩
  have hS2 : S = M + u.post.length := by rw [hS, hM]; simp
  have hn' : n = S + 1 := by rw [hn, hS2, hM]; simp [Tm.post]; omega
  clear hn
  rw [hpost] at hr
  obtain ⟨hcap, hm, hb, hc1, hc2⟩ := last_at hr hn' (by simp; omega) (m := (k, 0)) (by rw [List.getD_eq_getElem?_getD, List.getElem?_append_right (by simp; omega)]; simp [show S - (pre.length + (t.post.length + u.post.length)) = 0 by omega])
  have hra := hr.cut (pre := []) (sub := pre ++ t.post ++ u.post) (suf := [(k, 0)]) (i := 0) (m := S) (by simp) rfl (by simp; omega)
  have hrb := hr.cut (pre := []) (sub := pre ++ t.post) (suf := u.post ++ [(k, 0)]) (i := 0) (m := M) (by simp) rfl (by simp; omega)
  rw [Nat.zero_mul, Nat.add_zero, Nat.sub_zero] at hra hrb
  dsimp only at hc1 hc2
  clear hr hpost
  have hMe : (pre ++ t.post).length = M := by simp [hM]
  have Ihu := Lib.hid (fun w h hB => ihu W (pre ++ t.post) S B b off cap w hW hw hS (by omega) h hB)
  have Iht := Lib.hid (fun w h hB => iht W pre M B b off cap w hW hw hM (by omega) h hB)
  rw [hMe] at Ihu
  clear iht ihu hw hMe
  obtain ⟨hi1, hi2, hi3, hi4, hi5, hi6, hi7⟩ := part_num hn' hcap hm
  unfold maxLen at hm
  have hMS : M ≤ S := by omega
  clear hS2
  have Hn := Lib.hid hn'; clear hn'
  have HS := Lib.hid hS; clear hS
  have HM := Lib.hid hM; clear hM
  have Hra := Lib.hid hra; clear hra
  have Hrb := Lib.hid hrb; clear hrb
  have Hh : Hid (holds W (.bin k t u) = joinV k (holds W t) (holds W u)) := by unfold Hid joinV; rw [holds]
  have Hj := Lib.hid (fun w => implJoined k (holds W t) (holds W u) hk w)
  generalize holds W (.bin k t u) = o at *
  generalize holds W t = oa at *
  generalize holds W u = ob at *
  generalize joinV k oa ob = oj at *
  generalize pre.length = L at *
  have hk0 : (k == 0) = false := by rw [beq_eq_false_iff_ne]; omega
  have hk1 : (k == 1) = false := by rw [beq_eq_false_iff_ne]; omega
  have hk2 : (k == 2) = false := by rw [beq_eq_false_iff_ne]; omega
  go_enter Try.func41, Try.ntmps41
  go_wp2_with fail
  go_region_held3 (fun w' => w'.cell? ⟨b, off + S * 2, none⟩ = some (.int .i64 k) ∧ w'.cell? ⟨b, off + S * 2 + 1, none⟩ = some (.int .i64 0))
    (first | (refine ⟨?_, ?_⟩ <;> first | go_keep | assumption) | assumption)
    (fail)
  obtain ⟨w1, hw1, hn1, hn2, hbw, hsz⟩ := new_mark w k 0 TM
  rw [← hw1]
  have Hra1 := Lib.hid (Hra.out.below (w' := w1) (fun q hq => hbw.block q (by omega)))
  have Hrb1 := Lib.hid (Hrb.out.below (w' := w1) (fun q hq => hbw.block q (by omega)))
  have hB1 : B ≤ w1.heap.size := by omega
  have Hbw := Lib.hid hbw; clear hbw hw1
  go_wp2_with fail
  refine (Ihu.out _ (by exact Hra1.out) (by exact hB1)).mono ?_
  rintro e w2 ⟨rfl, hb2'⟩
  have hb2 : Below w1.heap.size w1 w2 := by first | exact hb2' | exact below_undrewS hb2' | exact below_undrewN hb2'
  have Hb2 := Lib.hid (Hbw.out.trans (hb2.mono Hbw.out.size))
  have hn12 := (hb2.cell (p := ⟨w.heap.size, 0, none⟩) hsz).trans hn1
  have Hrb2 := Lib.hid (Hrb1.out.below (w' := w2) (fun q hq => hb2.block q (by omega)))
  have hB2 : B ≤ w2.heap.size := by have := hb2.size; omega
  have hsz2 : w.heap.size < w2.heap.size := by have := hb2.size; omega
  clear hb2 hb2' hn1 hn2
  go_wp2_with fail
  refine (Iht.out _ (by exact Hrb2.out) (by exact hB2)).mono ?_
  rintro e w3 ⟨rfl, hb3'⟩
  have hb3 : Below w2.heap.size w2 w3 := by first | exact hb3' | exact below_undrewS hb3' | exact below_undrewN hb3'
  have Hb3 := Lib.hid (Hb2.out.trans (hb3.mono Hb2.out.size))
  have hn13 := (hb3.cell (p := ⟨w.heap.size, 0, none⟩) hsz2).trans hn12
  clear hb3 hb3' hn12
  go_wp2_with fail
  refine (Hj.out _).mono ?_
  rintro e w' ⟨rfl, rfl⟩
  go_wp2
  go_ret2
  exact ⟨by rw [Hh.out]; rfl, by first | exact Hb3.out | exact below_drew Hb3.out | exact below_drewN Hb3.out _ | exact below_drew (below_drew Hb3.out)⟩
theorem partAt {p : Int} (hp : p ≤ 4) : ∀ t : Tm, t.ok p → PartAt 41 p t
  | .leaf k x, h => lastPart_leaf hp k x h
  | .un t, h => by
    have h' : t.ok p := by simpa only [Tm.ok] using h
    exact lastPart_un t h' (partAt hp t h')
  | .bin k a b, h => by
    simp only [Tm.ok] at h
    obtain ⟨h3, h5, ha, hb⟩ := h
    exact lastPart_bin k a b ⟨h3, h5⟩ (partAt hp a ha) (partAt hp b hb)
theorem holdsPart {p x : Int} {ms : List (Int × Int)} (h : termOk p ms = true) (hx : wOk p x = true) (B : Nat) (v : Value) (w : World) (hr : RdMarks w B v ms) (hB : B ≤ w.heap.size) :
    Calls Try.prog 41 #[.int .i64 p, v, .int .i64 x] w fun e w' => (∃ r, e = .returned (.tuple #[.bool (holdsV p ms x), r])) ∧ Below w.heap.size w w' := by
  obtain ⟨⟨h1, h4⟩, hl, t, ht, rfl⟩ := termOk_iff.1 h
  obtain ⟨_, _, hx0, hx16⟩ := wOk_lt hx
  rw [holdsV_at h ht hx]
  obtain ⟨X, rfl⟩ := Int.eq_ofNat_of_zero_le hx0
  rw [Int.toNat_natCast]
  obtain ⟨b, off, cap, rfl, _⟩ := hr.form (post_pos t)
  refine (partAt h4 t ht X [] t.post.length B b off cap w (by omega) hx (by simp) hl (by simpa using hr) hB).mono ?_
  rintro e w' ⟨rfl, hb⟩
  exact ⟨⟨_, rfl⟩, hb⟩
set_option maxHeartbeats 1000000 in
theorem implHoldsIn (p : Int) (ms : List (Int × Int)) (x : Int) (B : Nat) (v : Value) (w : World) (hr : RdMarks w B v ms) (hB : B ≤ w.heap.size) :
    Calls Try.prog 34 #[.int .i64 p, v, .int .i64 x] w fun e w' => e = .returned (.bool (holdsV p ms x)) ∧ Below w.heap.size w w' := by
  cases hok : termOk p ms with
  | false =>
    have Hok := Lib.hid hok
    have Hf := Lib.hid (holdsV_no (x := x) hok)
    clear hok
    go_enter Try.func34, Try.ntmps34
    go_wp2_with fail
    refine (implTermOk _ _ _ _ _ hr hB).mono ?_
    rintro e w1 ⟨rfl, hb1⟩
    have Hb1 := Lib.hid hb1; clear hb1
    rw [Hok.out]
    go_wp2
    go_ret
    exact ⟨by rw [Hf.out]; rfl, Hb1.out⟩
  | true =>
    cases hx : wOk p x with
    | false =>
      have Hok := Lib.hid hok
      have Hx := Lib.hid hx
      have Hf := Lib.hid (holdsV_no2 (ms := ms) hx)
      clear hok hx
      go_enter Try.func34, Try.ntmps34
      go_wp2_with fail
      refine (implTermOk _ _ _ _ _ hr hB).mono ?_
      rintro e w1 ⟨rfl, hb1⟩
      have Hb1 := Lib.hid hb1; clear hb1
      rw [Hok.out]
      go_wp2_with fail
      refine (implWorldOk _ _ _).mono ?_
      rintro e w' ⟨rfl, rfl⟩
      rw [Hx.out]
      go_wp2
      go_ret
      exact ⟨by rw [Hf.out]; rfl, Hb1.out⟩
    | true =>
      have Hc := Lib.hid (fun w h hB => holdsPart hok hx B v w h hB)
      have Hok := Lib.hid hok
      have Hx := Lib.hid hx
      clear hok hx
      generalize holdsV p ms x = o at *
      go_enter Try.func34, Try.ntmps34
      go_wp2_with fail
      refine (implTermOk _ _ _ _ _ hr hB).mono ?_
      rintro e w1 ⟨rfl, hb1⟩
      have Hr1 := Lib.hid (hr.below (w' := w1) (fun q hq => hb1.block q (by omega)))
      have hB1 : B ≤ w1.heap.size := by have := hb1.size; omega
      have Hb1 := Lib.hid hb1; clear hb1
      rw [Hok.out]
      go_wp2_with fail
      refine (implWorldOk _ _ _).mono ?_
      rintro e w' ⟨rfl, rfl⟩
      rw [Hx.out]
      go_wp2_with fail
      refine (Hc.out _ (by exact Hr1.out) (by exact hB1)).mono ?_
      rintro e w2 ⟨⟨r, rfl⟩, hb2'⟩
      have hb2 : Below w1.heap.size w1 w2 := by first | exact hb2' | exact below_undrewS hb2' | exact below_undrewN hb2'
      have Hb2 := Lib.hid (Hb1.out.trans (hb2.mono Hb1.out.size)); clear hb2 hb2'
      go_wp2
      go_ret
      exact ⟨rfl, by first | exact Hb2.out | exact below_drew Hb2.out | exact below_drewN Hb2.out _⟩
theorem holdsV_tab {p : Int} {ms : List (Int × Int)} (h : termOk p ms = true) {k : Nat} (hk : k < 2 ^ p.toNat) : holdsV p ms k = holds k (tmOf p ms) := by
  obtain ⟨h1, h4⟩ := p_of h
  have hx : wOk p k = true := wOk_iff.2 ⟨h1, h4, by omega, by exact_mod_cast hk⟩
  unfold holdsV
  rw [h, hx, Int.toNat_natCast]; rfl
set_option maxRecDepth 100000 in
set_option maxHeartbeats 1000000 in
theorem implTableOf (p : Int) (ms : List (Int × Int)) (B : Nat) (v : Value) (w : World) (hr : RdMarks w B v ms) (hB : B ≤ w.heap.size) :
    Calls Try.prog 29 #[.int .i64 p, v] w fun e w' => e = .returned (.int .i64 (tabV p ms)) ∧ Below w.heap.size w w' := by
  cases hok : termOk p ms with
  | false =>
    have Hok := Lib.hid hok
    have Hf := Lib.hid (tabV_no hok)
    clear hok
    go_enter Try.func29, Try.ntmps29
    go_wp2_with fail
    refine (implTermOk _ _ _ _ _ hr hB).mono ?_
    rintro e w1 ⟨rfl, hb1⟩
    have Hb1 := Lib.hid hb1; clear hb1
    rw [Hok.out]
    go_wp2
    go_ret
    exact ⟨by rw [Hf.out]; rfl, Hb1.out⟩
  | true =>
    obtain ⟨h1, h4⟩ := p_of hok
    obtain ⟨N, hN⟩ : ∃ N : Nat, N = 2 ^ p.toNat := ⟨_, rfl⟩
    have hN16 : N ≤ 16 := by rw [hN]; exact two16 (by omega)
    have Hcnt := Lib.hid (fun w => implWorldCount p N (by rw [hN]; exact cnt_of p) h1 h4 w)
    have Hv := Lib.hid (tabV_yes hok)
    rw [← hN] at Hv
    have Hk : Hid (∀ k, k < N → holdsV p ms k = holds k (tmOf p ms)) := fun k hk => holdsV_tab hok (by omega)
    have Hc := Lib.hid (fun (k : Nat) w h hB => implHoldsIn p ms k B v w h hB)
    have Hok := Lib.hid hok
    clear hok h1 h4
    have HN := Lib.hid hN; clear hN
    generalize tmOf p ms = t at *
    have Hr := Lib.hid hr; clear hr
    obtain ⟨wo, rfl⟩ : ∃ wo : World, wo = w := ⟨_, rfl⟩
    go_enter Try.func29, Try.ntmps29
    go_wp2_with fail
    refine (implTermOk _ _ _ _ _ Hr.out hB).mono ?_
    rintro e w1 ⟨rfl, hb1⟩
    rw [Hok.out]
    have Hb1 := Lib.hid hb1; clear hb1
    go_wp2_with fail
    refine (Hcnt.out _).mono ?_
    rintro e w' ⟨rfl, rfl⟩
    go_wp2_with fail
    go_loopw [5, 6, 13] (fun t' _ i wr => ∃ k : Nat, k ≤ N ∧ i = .int .i64 k ∧ t' = .int .i64 (tabF k (fun W => holds W t)) ∧ Below wo.heap.size wo wr) (fun _ _ i _ => N - (intOf i).toNat)
    case atStart => exact ⟨0, Nat.zero_le _, rfl, rfl, Hb1.out⟩
    case round =>
      obtain ⟨k, hk, rfl, rfl, hbr⟩ := hrel
      have hBr : B ≤ wr.heap.size := by have := hbr.size; omega
      have Hrr := Lib.hid (Hr.out.below (fun q hq => hbr.block q (by omega)))
      have Hbr := Lib.hid hbr
      clear hbr
      by_cases hlt : k < N
      · have Hs := Lib.hid (tabF_succ k (fun W => holds W t))
        have Hkk := Lib.hid (Hk.out k hlt)
        have Hck := Lib.hid (Hc.out k)
        have hor := or_shlN (t := tabF k (fun W => holds W t)) (x := k) (N := N) (Nat.lt_of_lt_of_le (tabF_lt k _) (Nat.pow_le_pow_right (by decide) hk)) hN16 hlt
        rw [Nat.min_eq_left (by omega)] at hor
        generalize tabF k (fun W => holds W t) = T at *
        generalize holdsV p ms k = o at *
        go_wp2_with fail
        refine (Hck.out wr Hrr.out hBr).mono ?_
        rintro e w2 ⟨rfl, hb2⟩
        have Hb2 := Lib.hid (Hbr.out.trans (hb2.mono Hbr.out.size))
        clear hb2
        cases o with
        | true =>
          have Hs' : Hid (tabF (k + 1) (fun W => holds W t) = T ||| 1 <<< k) := by
            have := Hs.out; rw [← Hkk.out, if_pos rfl] at this; exact this
          clear Hs
          go_wp2
          go_roundw
          case rel => exact ⟨k + 1, by omega, by go_num, by rw [Hs'.out, ← hor], Hb2.out⟩
          case measure => simp [intOf]; omega
        | false =>
          have Hs' : Hid (tabF (k + 1) (fun W => holds W t) = T) := by
            have := Hs.out; rw [← Hkk.out, if_neg (by decide)] at this; exact this
          clear Hs
          go_wp2
          go_roundw
          case rel => exact ⟨k + 1, by omega, by go_num, by rw [Hs'.out], Hb2.out⟩
          case measure => simp [intOf]; omega
      · obtain rfl : k = N := by omega
        go_wp2
        go_ret
        exact ⟨by rw [Hv.out]; rfl, Hbr.out⟩
def allV (p : Int) : Int := ((2 ^ (2 ^ p.toNat) - 1 : Nat) : Int)
end Go.Proofs.Ytbnickgjnglblaa

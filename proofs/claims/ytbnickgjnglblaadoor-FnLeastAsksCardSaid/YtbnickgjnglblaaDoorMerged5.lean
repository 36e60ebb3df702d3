/- Texts of a proof, merged: Starts, Frame. -/
import Derived.Test.YtbnickgjnglblaaDoorMarksS
import Derived.IntWalk
import Derived.Test.YtbnickgjnglblaaDoorMerged0
import Derived.ProofKit
import Derived.OpenShut
import Derived.ShutString
import Derived.ChangeOld
import Derived.Below
/- Where a part of a row of marks begins; parts of rows. -/
namespace Go.Proofs.YtbnickgjnglblaaDoor
open Go.RowKit

/-! ### how far a part reaches back -/
def dl (k : Int) : Int := if k ≤ 1 then -1 else if k = 2 then 0 else 1
def dsT (t : Tm) : List Int := t.post.reverse.map (fun m => dl m.1)
theorem dsT_un (t : Tm) : dsT (.un t) = 0 :: dsT t := by simp [dsT, Tm.post, dl]
theorem dsT_bin {k : Int} (a b : Tm) (hk : 3 ≤ k) : dsT (.bin k a b) = 1 :: (dsT b ++ dsT a) := by
  have h1 : ¬ k ≤ 1 := by omega
  have h2 : ¬ k = 2 := by omega
  simp [dsT, Tm.post, dl, h1, h2]
theorem dsT_len (t : Tm) : (dsT t).length = t.post.length := by simp [dsT]
theorem dsT_sum {p : Int} : ∀ t : Tm, t.ok p → (dsT t).sum = -1 ∧ ∀ j, j < (dsT t).length → 0 ≤ ((dsT t).take j).sum
  | .leaf k x, h => by
    have hk : k ≤ 1 := by simp only [Tm.ok] at h; omega
    have e : dsT (.leaf k x) = [-1] := by simp [dsT, Tm.post, dl, hk]
    rw [e]
    refine ⟨rfl, fun j hj => ?_⟩
    simp at hj
    subst hj
    simp
  | .un t, h => by
    obtain ⟨h1, h2⟩ := dsT_sum t (by simpa only [Tm.ok] using h)
    rw [dsT_un]
    refine ⟨by simp [h1], fun j hj => ?_⟩
    cases j with
    | zero => simp
    | succ j =>
      have := h2 j (by simp at hj; exact hj)
      simpa using this
  | .bin k a b, h => by
    simp only [Tm.ok] at h
    obtain ⟨hk, _, ha, hb⟩ := h
    obtain ⟨a1, a2⟩ := dsT_sum a ha
    obtain ⟨b1, b2⟩ := dsT_sum b hb
    rw [dsT_bin a b hk]
    refine ⟨by simp [a1, b1], fun j hj => ?_⟩
    cases j with
    | zero => simp
    | succ j =>
      simp at hj
      rw [List.take_succ_cons, List.sum_cons, List.take_append, List.sum_append]
      by_cases hjb : j < (dsT b).length
      · have := b2 j hjb
        rw [Nat.sub_eq_zero_of_le (by omega)]
        simp; omega
      · have := a2 (j - (dsT b).length) (by omega)
        rw [List.take_of_length_le (by omega), b1]
        omega
theorem dl_le (k : Int) : dl k ≤ 1 := by unfold dl; split <;> (try split) <;> omega
theorem sum_take_le : ∀ (l : List Int) (j : Nat), (∀ x ∈ l, x ≤ 1) → (l.take j).sum ≤ j
  | [], j, _ => by simp
  | x :: l, 0, _ => by simp
  | x :: l, j + 1, h => by
    have h1 := h x (by simp)
    have h2 := sum_take_le l j (fun y hy => h y (by simp [hy]))
    simp; omega
/-- the parts that are wanted once j marks have been passed, from the last one back -/
def nd (t : Tm) (j : Nat) : Int := 1 + ((dsT t).take j).sum
theorem nd_zero (t : Tm) : nd t 0 = 1 := by simp [nd]
theorem nd_all {p : Int} {t : Tm} (h : t.ok p) : nd t t.post.length = 0 := by
  obtain ⟨h1, _⟩ := dsT_sum t h
  unfold nd
  rw [List.take_of_length_le (by rw [dsT_len]; omega), h1]
  rfl
theorem nd_step {p : Int} {t : Tm} (h : t.ok p) {j : Nat} (hj : j < t.post.length) : 1 ≤ nd t j ∧ nd t j ≤ 1 + j ∧ nd t (j + 1) = nd t j + dl (t.post.getD (t.post.length - 1 - j) (0, 0)).1 := by
  obtain ⟨_, h2⟩ := dsT_sum t h
  have h3 := h2 j (by rw [dsT_len]; exact hj)
  have h4 := sum_take_le (dsT t) j (fun x hx => by
    simp only [dsT, List.mem_map] at hx
    obtain ⟨m, _, rfl⟩ := hx
    exact dl_le _)
  refine ⟨by unfold nd; omega, by unfold nd; omega, ?_⟩
  unfold nd
  rw [take_snoc 0 (dsT t) j (by rw [dsT_len]; exact hj), List.sum_append]
  have e : (dsT t).getD j 0 = dl (t.post.getD (t.post.length - 1 - j) (0, 0)).1 := by
    have hl : j < (dsT t).length := by rw [dsT_len]; exact hj
    rw [List.getD_eq_getElem?_getD, List.getElem?_eq_getElem hl, List.getD_eq_getElem?_getD, List.getElem?_eq_getElem (show t.post.length - 1 - j < t.post.length by omega)]
    simp [dsT]
  rw [e]
  simp
  omega

/-! ### parts of rows, parts' texts -/
theorem RdMarks.cut {w : World} {B b off n cap m i : Nat} {ms pre sub suf : List (Int × Int)} (h : RdMarks w B (.slice (some ⟨b, off, none⟩) n cap) ms) (e : ms = pre ++ sub ++ suf) (hi : pre.length = i) (hm : sub.length = m) :
    RdMarks w B (.slice (some ⟨b, off + i * 2, none⟩) m (cap - i)) sub := by
  obtain ⟨ao, cap', hv, hl, hmx, hii, hc⟩ := h
  cases hv
  subst e; subst hi; subst hm
  simp only [List.length_append] at hl
  refine ⟨_, _, rfl, by omega, by unfold maxLen at *; omega, fun x hx => hii x (by simp [hx]), fun j hj => ?_⟩
  obtain ⟨b', off', he, hb, h1, h2⟩ := hc (pre.length + j) (by simp only [List.length_append]; omega)
  cases he
  have e : (pre ++ sub ++ suf).getD (pre.length + j) (0, 0) = sub.getD j (0, 0) := by
    rw [List.getD_eq_getElem?_getD, List.getElem?_append_left (by simp only [List.length_append]; omega), List.getElem?_append_right (by omega), Nat.add_sub_cancel_left, ← List.getD_eq_getElem?_getD]
  rw [e] at h1 h2
  exact ⟨b, _, rfl, hb, by rw [← h1]; congr 2; omega, by rw [← h2]; congr 2; omega⟩
theorem RdMarks.form {w : World} {B : Nat} {v : Value} {ms : List (Int × Int)} (h : RdMarks w B v ms) (hn : 0 < ms.length) : ∃ b off cap, v = .slice (some ⟨b, off, none⟩) ms.length cap ∧ ms.length ≤ cap ∧ cap ≤ maxLen ∧ b < B := by
  obtain ⟨ao, cap, rfl, hl, hm, _, hc⟩ := h
  obtain ⟨b, off, rfl, hb, _⟩ := hc 0 hn
  exact ⟨b, off, cap, rfl, hl, hm, hb⟩
theorem RdMarks.at {w : World} {B b off n cap j : Nat} {ms : List (Int × Int)} {m : Int × Int} (h : RdMarks w B (.slice (some ⟨b, off, none⟩) n cap) ms) (hj : j < ms.length) (hm : ms.getD j (0, 0) = m) :
    w.cell? ⟨b, off + j * 2, none⟩ = some (.int .i64 m.1) ∧ w.cell? ⟨b, off + j * 2 + 1, none⟩ = some (.int .i64 m.2) := by
  obtain ⟨ao, cap, hv, hl, _, _, hc⟩ := h
  cases hv
  obtain ⟨b', off', he, hb, h1, h2⟩ := hc j hj
  cases he
  rw [hm] at h1 h2
  exact ⟨h1, h2⟩
theorem post_pos (t : Tm) : 0 < t.post.length := by cases t <;> simp [Tm.post] <;> omega
end Go.Proofs.YtbnickgjnglblaaDoor
/- What the frames of all laws share: a slice that came in, read as a list; two closed facts of the program. -/
namespace Go.Proofs.YtbnickgjnglblaaDoor
open Go.RowKit

theorem Tryd.own : ownKnob Tryd.prog.godebug = none := by kernel_rfl
theorem Tryd.laidOut : laidOutB Tryd.prog = true := by kernel_rfl

/-- a slice of integers that came in: nil, or a row of cap cells that read as zs -/
def IsRow (k : IntKind) (w : World) (a : Option Addr) (len cap : Nat) (zs : List Int) : Prop :=
  (a = none ∧ len = 0 ∧ cap = 0 ∧ zs = []) ∨
  ∃ x, a = some x ∧ len ≤ cap ∧ cap ≤ maxLen ∧ zs.length = cap ∧ (∀ i, i < zs.length → w.cell? (x.add i) = some (.int k (zs.getD i 0))) ∧ ∀ n ∈ zs, (Lit.int k n).wf = true

theorem cell_add {w : World} {x : Addr} {i : Nat} {v v0 : Value} (h0 : w.cell? (x.add 0) = some v0) (h : w.cell? (x.add i) = some v) : ∃ b off, x = ⟨b, off, none⟩ ∧ b < w.heap.size ∧ w.cell? ⟨b, off + i, none⟩ = some v := by
  obtain ⟨b, off, spot⟩ := x
  have hspot : spot = none := by simpa [Addr.add] using World.cell?_spot h0
  subst hspot
  have hadd : (⟨b, off, none⟩ : Addr).add i = ⟨b, off + i, none⟩ := by unfold Addr.add; split <;> simp_all
  rw [hadd] at h
  exact ⟨b, off, rfl, World.block_lt_of_cell? w _ h, h⟩

theorem RdInts.of_row {w : World} {a : Option Addr} {len cap : Nat} {zs : List Int} (h : IsRow .i64 w a len cap zs) : RdInts w w.heap.size (.slice a len cap) (zs.take len) := by
  rcases h with ⟨rfl, rfl, rfl, rfl⟩ | ⟨x, rfl, hl, hm, hz, hc, _⟩
  · exact ⟨none, 0, rfl, Nat.le_refl _, by unfold maxLen; omega, fun j hj => by simp at hj⟩
  · have hlen : (zs.take len).length = len := by simp; omega
    refine ⟨some x, cap, by rw [hlen], by omega, hm, fun j hj => ?_⟩
    rw [hlen] at hj
    obtain ⟨b, off, rfl, hb, hcell⟩ := cell_add (hc 0 (by omega)) (hc j (by omega))
    refine ⟨b, off, rfl, hb, ?_⟩
    rw [hcell]
    simp [List.getD, hj]

/-- v is a slice of n bytes that lies below block B -/
def RdBytes (w : World) (B : Nat) (v : Value) (n : Nat) : Prop :=
  ∃ ao cap, v = .slice ao n cap ∧ n ≤ cap ∧ cap ≤ maxLen ∧
    ∀ j, j < n → ∃ b off, ao = some ⟨b, off, none⟩ ∧ b < B ∧ ∃ z : Nat, z < 256 ∧ w.cell? ⟨b, off + j, none⟩ = some (.int .u8 z)
theorem RdBytes.of_row {w : World} {a : Option Addr} {len cap : Nat} {zs : List Int} (h : IsRow .u8 w a len cap zs) : RdBytes w w.heap.size (.slice a len cap) len := by
  rcases h with ⟨rfl, rfl, rfl, rfl⟩ | ⟨x, rfl, hl, hm, hz, hc, hwf⟩
  · exact ⟨none, 0, rfl, Nat.le_refl _, by unfold maxLen; omega, fun j hj => by omega⟩
  · refine ⟨some x, cap, rfl, hl, hm, fun j hj => ?_⟩
    obtain ⟨b, off, rfl, hb, hcell⟩ := cell_add (hc 0 (by omega)) (hc j (by omega))
    have hw := hwf (zs.getD j 0) (by rw [show zs.getD j 0 = zs[j]'(by omega) from by simp [List.getD, show j < zs.length by omega]]; exact List.getElem_mem _)
    have hbd : 0 ≤ zs.getD j 0 ∧ zs.getD j 0 ≤ 255 := by simpa [Lit.wf, IntKind.min, IntKind.max, IntKind.signed, IntKind.bits] using hw
    obtain ⟨z, hz'⟩ := Int.eq_ofNat_of_zero_le hbd.1
    refine ⟨b, off, rfl, hb, z, by omega, ?_⟩
    rw [hcell, hz']
theorem RdBytes.below {w w' : World} {B : Nat} {v : Value} {n : Nat} (h : RdBytes w B v n) (hb : ∀ k, k < B → w'.heap[k]? = w.heap[k]?) : RdBytes w' B v n := by
  obtain ⟨ao, cap, hv, hl, hm, hc⟩ := h
  refine ⟨ao, cap, hv, hl, hm, fun j hj => ?_⟩
  obtain ⟨b, off, ha, hB, z, hz, hcell⟩ := hc j hj
  exact ⟨b, off, ha, hB, z, hz, by rw [← hcell]; exact World.cell?_of_block (w := w) (hb b hB)⟩

/-! ### the head of the cut, read cheaply: a string is taken as its list of signs by rewriting, not by running the decoder -/
theorem toList_of {s : String} {l : List Char} (h : s = String.ofList l) : s.toList = l := by rw [h]; simp
theorem cons_of_head {α : Type} {l : List α} {x : α} (h : l.head? = some x) : ∃ W, l = x :: W := by
  cases l with
  | nil => cases h
  | cons a r => simp at h; subst h; exact ⟨r, rfl⟩
theorem strip_cut (W : List (List Char)) : stripLifts liftWords ("cut".toList :: W) = ([], "cut".toList :: W) := by kernel_rfl
theorem headLifts_cut {P : Program} {W : List (List Char)} (h : behindMainWord (wordsSigns P.initOrder.toList) = "cut".toList :: W) : P.headLifts = [] := by
  unfold Program.headLifts
  rw [h, strip_cut]
  rfl
theorem mayEnter_cut {P : Program} {W : List (List Char)} (h : behindMainWord (wordsSigns P.initOrder.toList) = "cut".toList :: W) (h1 : P.laysLater = false) (h2 : P.bearsReflect = false) (h3 : P.doorFits [] = true) : P.mayEnter = true := by
  unfold Program.mayEnter
  rw [h]
  dsimp only
  rw [strip_cut, h1, h2, h3]
  simp
theorem lifts_cut {P : Program} {W : List (List Char)} (h : behindMainWord (wordsSigns P.initOrder.toList) = "cut".toList :: W) : P.liftsFinal = false := by
  unfold Program.liftsFinal
  rw [h, headLifts_cut h]
  have e : ("cut".toList == "carried".toList) = false := by decide +kernel
  simp
theorem make_cut {P : Program} {W : List (List Char)} (h : behindMainWord (wordsSigns P.initOrder.toList) = "cut".toList :: W) : P.make = some .cut := by
  unfold Program.make
  rw [h]
  simp
set_option maxRecDepth 100000 in
theorem Tryd.words : ∃ W, behindMainWord (wordsSigns Tryd.prog.initOrder.toList) = "cut".toList :: W := by
  rw [toList_of (s := Tryd.prog.initOrder) rfl]
  exact cons_of_head (by kernel_rfl)
theorem Tryd.mayEnter0 : Tryd.prog.mayEnter = true := by
  obtain ⟨W, h⟩ := Tryd.words
  exact mayEnter_cut h (by kernel_rfl) (by kernel_rfl) (by kernel_rfl)
theorem Tryd.lifts0 : Tryd.prog.liftsFinal = false := by
  obtain ⟨W, h⟩ := Tryd.words
  exact lifts_cut h
theorem Tryd.make0 : Tryd.prog.make = some .cut := by
  obtain ⟨W, h⟩ := Tryd.words
  exact make_cut h

theorem and_tt {a b : Bool} (h : a = true) (k : b = true) : (a && b) = true := by rw [h, k]; rfl
theorem lifted_tt {P : Program} {b : Bool} (h : P.liftsFinal = false) (hb : b = false) : (b == P.liftsFinal) = true := by rw [h, hb]; rfl
theorem make_tt {P : Program} {m : Make} (h : P.make = some .cut) (hm : m = .cut) : (P.make == some m) = true := by rw [h, hm]; rfl
end Go.Proofs.YtbnickgjnglblaaDoor

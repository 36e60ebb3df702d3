/- slices.Backward at rows of ints: its contract for a loop's body: all of the row, the last first, or a part of it. -/
import Derived.RangeFuncNested
import Derived.RangeFuncBound
import Derived.RangeFuncCalls
import Derived.RangeFuncLeaves
import Derived.RangeFuncFrom
import Derived.RangeFuncBox
import Derived.Shelf.Abstract
import Derived.Shelf.RegionOpen
import Derived.WalkKit
import Derived.OwnWalkIn
import Derived.TacticsInMore
import Derived.LoopNIn
import Derived.LoopIn
import Derived.Test.YtbcmepcjhobemaaTerm
namespace Go.Proofs.Ytbcmepcjhobemaa
open Go.RowKit Go.Shelf
attribute [local go_sem] Oper.semAt_some
/-- an index and a number of 64 bits -/
abbrev B64 := { x : Int × Int // I64 x.2 }
/-- the numbers that have come, the last one first -/
def revs (pre : List B64) : List Int := (pre.map (fun x => x.1.2)).reverse
theorem revs_snoc (pre : List B64) (x : B64) : revs (pre ++ [x]) = x.1.2 :: revs pre := by simp [revs]
theorem revs_length (pre : List B64) : (revs pre).length = pre.length := by simp [revs]
/-- the blocks below n₀, and block Bs, lie as they lay -/
def KeepB (n₀ Bs : Nat) (W W' : World) : Prop := ∀ k, (k < n₀ ∨ k = Bs) → W'.heap[k]? = W.heap[k]?
theorem KeepB.refl (n₀ Bs : Nat) (W : World) : KeepB n₀ Bs W W := fun _ _ => rfl
theorem KeepB.trans {n₀ Bs : Nat} {A B C : World} (h : KeepB n₀ Bs A B) (k : KeepB n₀ Bs B C) : KeepB n₀ Bs A C := fun i hi => (k i hi).trans (h i hi)
theorem keepB_put {n₀ Bs : Nat} {w : World} (hn : n₀ ≤ w.heap.size) (hb : Bs < w.heap.size) (W : World) (l : Nat) (o o' : Obj) (hl : w.heap.size ≤ l) (_ : W.heap[l]? = some o) (_ : o.isCells = false) (_ : o.isWalk = false) : KeepB n₀ Bs W (W.putObj l o') := fun k hk =>
  World.putObj_heap_other (by rcases hk with h | h <;> omega)
theorem KeepB.cell {n₀ Bs : Nat} {A B : World} (h : KeepB n₀ Bs A B) {p : Addr} (hp : p.block < n₀ ∨ p.block = Bs) : B.cell? p = A.cell? p := World.cell?_of_block (h p.block hp)
theorem drop_getD {zs : List Int} {j : Nat} (hj : j < zs.length) : zs.drop j = zs.getD j 0 :: zs.drop (j + 1) := by
  rw [List.drop_eq_getElem_cons hj]; simp [List.getD, hj]
set_option maxRecDepth 100000 in
set_option maxHeartbeats 2000000 in
theorem back1_in (F : Fence) (n : Nat) (hF : F.fn 63) (hro : F.round = none) (hn : 1 ≤ n) (l Bs n₀ B : Nat) (a : Value) (zs : List Int) (hz : Hid (∀ j, j < zs.length → I64 (zs.getD j 0))) (hB : B ≤ n₀) (J Jx : List B64 → World → Prop)
    (hY : ∀ pre x W, J pre W → pre.length < zs.length → YieldAt F (n - 1) Try.prog l #[.int .i64 x.1.1, .int .i64 x.1.2] W fun e W' =>
      (e = .returned (.bool true) ∧ J (pre ++ [x]) W' ∧ KeepB n₀ Bs W W') ∨ (e = .returned (.bool false) ∧ Jx (pre ++ [x]) W'))
    (W : World) (hBs : W.cell? ⟨Bs, 0, none⟩ = some a) (hL : RdInts W B a zs) (h0 : J [] W) :
    CallsIn F n Try.prog 63 #[.func (.yield l) #[] #[], .pointer (some ⟨Bs, 0, none⟩)] W fun e W' => (∃ v, e = .returned v) ∧
      ((∃ ys, revs ys = zs ∧ J ys W') ∨ (∃ pre, (∃ k, k ≤ zs.length ∧ revs pre = zs.drop k) ∧ Jx pre W')) := by
  obtain ⟨ao, cap, rfl, hlc, hcm, hcell⟩ := hL
  have Hcell := Lib.hid hcell
  unfold maxLen at hcm
  have Hd := Lib.hid (fun j hj => drop_getD (zs := zs) (j := j) hj)
  have Hend : Hid (zs.drop zs.length = []) := List.drop_length
  have Hall : Hid (zs.drop 0 = zs) := rfl
  have HY := Lib.hid hY
  clear hcell hY
  have Hlen : Hid (∀ (pre : List B64) (k : Nat), revs pre = zs.drop (k + 1) → k < zs.length → pre.length < zs.length) := fun pre k h hk => by
    rw [← revs_length, h, List.length_drop]; omega
  generalize hzn : zs.length = N at *
  clear hzn
  refine callsIn_of_wp Try.func63 rfl hF ?_ hro
  simp only [Try.ntmps63, List.size_toArray, List.length_cons, List.length_nil, Nat.reduceAdd, Nat.reduceSub, Array.replicate_succ, Array.replicate_zero, List.push_toArray, List.append_toArray, List.nil_append, List.cons_append]
  gi_wp2
  gi_loopw [3] (fun i wr => ∃ (k : Nat) (pre : List B64), k ≤ N ∧ i = .int .i64 ((k : Int) - 1) ∧ revs pre = zs.drop k ∧ J pre wr ∧ KeepB n₀ Bs W wr)
    (fun i _ => (intOf i + 1).toNat)
  case atStart => exact ⟨N, [], Nat.le_refl _, by go_num, by rw [Hend.out]; rfl, h0, KeepB.refl _ _ _⟩
  case round =>
    obtain ⟨k, pre, hk, rfl, hpre, hJs, hkb⟩ := hrel
    have hbs := (hkb.cell (p := ⟨Bs, 0, none⟩) (.inr rfl)).trans hBs
    cases k with
    | zero =>
      rw [show (((0 : Nat) : Int) - 1) = -1 from rfl]
      gi_wp2
      go_end0
      exact ⟨⟨_, rfl⟩, .inl ⟨pre, by rw [hpre, Hall.out], hJs⟩⟩
    | succ j =>
      rw [show (((j + 1 : Nat) : Int) - 1) = (j : Int) by omega]
      have hjn : j < N := by omega
      obtain ⟨b, off, rfl, hb, hc⟩ := Hcell.out j hjn
      have hc' := (hkb.cell (p := ⟨b, off + j, none⟩) (.inl (by show b < n₀; omega))).trans hc
      have hd := Hd.out j hjn
      obtain ⟨x, hx1, hx2⟩ : ∃ x : B64, x.1.1 = (j : Int) ∧ x.1.2 = zs.getD j 0 := ⟨⟨((j : Int), zs.getD j 0), hz.out j hjn⟩, rfl, rfl⟩
      obtain ⟨fn, tmps, assign, body, hy, hR⟩ := HY.out pre x wr hJs (Hlen.out pre j hpre hjn)
      have hlast : Hid (revs (pre ++ [x]) = zs.drop j) := by unfold Hid; rw [revs_snoc, hx2, hpre, hd]
      rw [← hx2] at hc'
      rw [hx1] at hy
      clear hd hc hpre hx1 hx2
      gi_wp2
      refine hR.mono ?_
      rintro e W3 (⟨rfl, hJ3, hk3⟩ | ⟨rfl, hJx3⟩)
      · gi_wp2
        go_roundw
        case rel => exact ⟨j, _, by omega, by go_num, hlast.out, hJ3, hkb.trans hk3⟩
        case measure => simp [intOf]
      · gi_wp2
        refine bodyPost_ret (results_none rfl _ _ _) rfl ?_
        exact ⟨⟨_, rfl⟩, .inr ⟨_, ⟨j, by omega, hlast.out⟩, hJx3⟩⟩
set_option maxHeartbeats 1000000 in
/-- slices.Backward of a row: its value lies in a box, and the function handed back holds the box -/
theorem back_in (F : Fence) (n : Nat) (hF : F.fn 56) (hro : F.round = none) (a : Option Addr) (len cap : Nat) (w : World) :
    CallsIn F n Try.prog 56 #[.slice a len cap] w fun e w' => e = .returned (.func (.func 63) #[] #[.pointer (some ⟨w.heap.size, 0, none⟩)]) ∧ w' = w.alloc (.cells #[.slice a len cap] 53) := by
  refine callsIn_of_wp Try.func56 rfl hF ?_ hro
  simp only [Try.ntmps56, List.size_toArray, List.length_cons, List.length_nil, Nat.reduceAdd, Nat.reduceSub, Array.replicate_succ, Array.replicate_zero, List.push_toArray, List.append_toArray, List.nil_append, List.cons_append]
  gi_wp2
  go_ret
  exact ⟨rfl, rfl⟩
theorem back_stops (F : Fence) (n : Nat) (hF : F.fn 63) (hro : F.round = none) (hn : 1 ≤ n) (Bs n₀ B : Nat) (a : Value) (zs : List Int) (hz : Hid (∀ j, j < zs.length → I64 (zs.getD j 0))) (hB : B ≤ n₀) (w : World) (hBs : Bs < w.heap.size) (hBw : B ≤ w.heap.size)
    (hc : w.cell? ⟨Bs, 0, none⟩ = some a) (hL : RdInts w B a zs) :
    SeqStopsK F n Try.prog 63 #[.pointer (some ⟨Bs, 0, none⟩)] (fun x : B64 => #[Value.int .i64 x.1.1, Value.int .i64 x.1.2]) (KeepB n₀ Bs) (fun ys => revs ys = zs) (fun pre => ∃ k, k ≤ zs.length ∧ revs pre = zs.drop k) zs.length w := fun l J Jx W hW _ _ hY h0 =>
  back1_in F n hF hro hn l Bs n₀ B a zs hz hB J Jx hY W ((hW.cell (p := ⟨Bs, 0, none⟩) hBs).trans hc) (hL.below (fun k hk => hW.block k (by omega))) h0
end Go.Proofs.Ytbcmepcjhobemaa

/- Contract of the program's text of one mark. -/
import Derived.Test.YtmcdfbjmbelklaaDoorText
import Derived.Deep.RegionHeld3
import Derived.IntWalk
namespace Go.Proofs.YtmcdfbjmbelklaaDoor
open Go.RowKit

theorem below_undrewY {B : Nat} {w w' : World} (h : Below B w.drew w') : Below B w w' := ⟨h.os, h.tape, h.output, h.size, h.block⟩
/-- the slice v has a part's text and last kind at place j -/
def PartAt (w : World) (B : Nat) (ao : Option Addr) (j : Nat) (l : List UInt8) (k : Int) : Prop :=
  ∃ b off, ao = some ⟨b, off, none⟩ ∧ b < B ∧ w.cell? ⟨b, off + j * 2, none⟩ = some (sv l) ∧ w.cell? ⟨b, off + j * 2 + 1, none⟩ = some (.int .i64 k)
theorem below_undrewX {w w' : World} {n : Nat} (h : Below (w.drewN n).heap.size (w.drewN n) w') : Below w.heap.size w w' := ⟨h.os, h.tape, h.output, h.size, h.block⟩
theorem bs_append (a b : List UInt8) : (⟨a.toArray⟩ : ByteArray) ++ ⟨b.toArray⟩ = ⟨(a ++ b).toArray⟩ := by
  apply ByteArray.ext
  simp

set_option maxHeartbeats 400000 in
theorem markText0 (x : Int) (v : Value) (hx : 0 ≤ x ∧ x ≤ 3) (w : World) :
    Calls Tryd.prog 28 #[.agg #[.int .i64 0, .int .i64 x], v] w fun e w' => e = .returned (sv [UInt8.ofNat (97 + x.toNat)]) ∧ Below w.heap.size w w' := by
  have h : x = 0 ∨ x = 1 ∨ x = 2 ∨ x = 3 := by omega
  clear hx
  rcases h with rfl | rfl | rfl | rfl
  all_goals
    go_enter Tryd.func28, Tryd.ntmps28
    go_wp2
    go_ret
    exact ⟨rfl, (Below.refl _ _).alloc (Nat.le_refl _) _⟩
set_option maxHeartbeats 400000 in
theorem markText1 (x : Int) (v : Value) (hx : 0 ≤ x ∧ x ≤ 5) (w : World) :
    Calls Tryd.prog 28 #[.agg #[.int .i64 1, .int .i64 x], v] w fun e w' => e = .returned (sv [UInt8.ofNat (48 + x.toNat)]) ∧ Below w.heap.size w w' := by
  have hit := itoa x hx
  generalize UInt8.ofNat (48 + x.toNat) = c at *
  have Hit := Lib.hid hit; clear hit
  go_enter Tryd.func28, Tryd.ntmps28
  go_wp2_with fail
  refine (Hit.out _).mono ?_
  rintro e w' ⟨rfl, rfl⟩
  go_wp2
  go_ret
  exact ⟨rfl, (Below.refl _ _).alloc (Nat.le_refl _) _⟩
set_option maxHeartbeats 400000 in
theorem markText2 (ao : Option Addr) (n cap : Nat) (l : List UInt8) (k : Int) (B : Nat) (w : World) (hn : 1 ≤ n) (hp : PartAt w B ao 0 l k) (hl : l.length ≤ 1000) :
    Calls Tryd.prog 28 #[.agg #[.int .i64 2, .int .i64 0], .slice ao n cap] w fun e w' => e = .returned (sv (33 :: within l k 2)) ∧ Below w.heap.size w w' := by
  obtain ⟨b, off, rfl, _, hc1, hc2⟩ := hp
  rw [Nat.zero_mul, Nat.add_zero] at hc1
  rw [Nat.zero_mul, Nat.add_zero] at hc2
  have hb1 := World.block_lt_of_cell? w _ hc1
  go_enter Tryd.func28, Tryd.ntmps28
  go_wp2_with fail
  refine (implWithin l k 2 hl _).mono ?_
  rintro e w' ⟨rfl, hb⟩
  have Hb := Lib.hid (((Below.refl w.heap.size w).alloc (Nat.le_refl _) (.cells #[.int .i64 2, .int .i64 0] 47)).trans (hb.mono (by simp)))
  clear hb
  have hwl := within_len l k 2
  have hwl2 : (within l k 2).length ≤ 1002 := by omega
  clear hwl
  generalize hm : within l k 2 = m at *
  have Hm := Lib.hid hm; clear hm
  go_wp2
  go_ret
  exact ⟨by rw [Hm.out]; exact congrArg (fun s => Ending.returned (.string s)) (bs_append [33] m), Hb.out⟩
set_option maxRecDepth 100000 in
set_option maxHeartbeats 1000000 in
theorem markText35 (ao : Option Addr) (n cap : Nat) (kd : Int) (l1 l2 : List UInt8) (k1 k2 : Int) (B : Nat) (w : World) (hkd : 3 ≤ kd ∧ kd ≤ 5) (hn : 2 ≤ n) (hB : B ≤ w.heap.size) (hp1 : PartAt w B ao 0 l1 k1) (hp2 : PartAt w B ao 1 l2 k2) (hl1 : l1.length ≤ 1000) (hl2 : l2.length ≤ 1000) :
    Calls Tryd.prog 28 #[.agg #[.int .i64 kd, .int .i64 0], .slice ao n cap] w fun e w' => e = .returned (sv (within l1 k1 kd ++ sign kd :: within l2 k2 (kd - 1))) ∧ Below w.heap.size w w' := by
  obtain ⟨b, off, rfl, hbB, hc1, hc2⟩ := hp1
  obtain ⟨b', off', he, _, hc3, hc4⟩ := hp2
  cases he
  rw [Nat.zero_mul, Nat.add_zero] at hc1
  rw [Nat.zero_mul, Nat.add_zero] at hc2
  rw [Nat.one_mul] at hc3
  rw [Nat.one_mul] at hc4
  have hb1 : b < w.heap.size := by omega
  have hk0 : (kd == 0) = false := by rw [beq_eq_false_iff_ne]; omega
  have hk1 : (kd == 1) = false := by rw [beq_eq_false_iff_ne]; omega
  have hk2 : (kd == 2) = false := by rw [beq_eq_false_iff_ne]; omega
  have hn0 : (0 : Int) < (n : Int) := by omega
  have hn1 : (1 : Int) < (n : Int) := by omega
  have hn0' : 0 < n := by omega
  have hn1' : 1 < n := by omega
  have hs := IntWalk.i64_in (kd - 1) (by omega)
  have hkn : ¬ b = w.heap.size := by omega
  have hm1 := within_len l1 k1 kd
  have hm2 := within_len l2 k2 (kd - 1)
  have hm1' : (within l1 k1 kd).length ≤ 1002 := by omega
  have hm2' : (within l2 k2 (kd - 1)).length ≤ 1002 := by omega
  have hw1 := implWithin l1 k1 kd hl1
  have hw2 := implWithin l2 k2 (kd - 1) hl2
  have hsg := implJoinSign kd hkd
  clear hm1 hm2 hl1 hl2
  generalize hm1 : within l1 k1 kd = m1 at *
  generalize hm2 : within l2 k2 (kd - 1) = m2 at *
  generalize hsg' : sign kd = sg at *
  have HM1 := Lib.hid hm1; clear hm1
  have HM2 := Lib.hid hm2; clear hm2
  have HSG := Lib.hid hsg'; clear hsg'
  have Hw1 := Lib.hid hw1; clear hw1
  have Hw2 := Lib.hid hw2; clear hw2
  have Hsg := Lib.hid hsg; clear hsg
  have hz1 : ¬ 9223372036854775807 < m1.length + 1 := by omega
  have hz2 : ¬ 9223372036854775807 < m1.length + 1 + m2.length := by omega
  have hbel0 : Below w.heap.size w (w.alloc (.cells #[.int .i64 kd, .int .i64 0] 47)) := (Below.refl _ _).alloc (Nat.le_refl _) _
  have hM : (w.alloc (.cells #[.int .i64 kd, .int .i64 0] 47)).cell? ⟨w.heap.size, 0, none⟩ = some (.int .i64 kd) := by go_simp
  go_enter Tryd.func28, Tryd.ntmps28
  go_wp2_with fail
  go_region_held3 (fun w' => w'.cell? ⟨b, off, none⟩ = some (sv l1) ∧ w'.cell? ⟨b, off + 1, none⟩ = some (.int .i64 k1) ∧ w'.cell? ⟨b, off + 2, none⟩ = some (sv l2) ∧ w'.cell? ⟨b, off + 2 + 1, none⟩ = some (.int .i64 k2) ∧ w'.cell? ⟨w.heap.size, 0, none⟩ = some (.int .i64 kd))
    (first | go_keep | exact ⟨by assumption, by assumption, by assumption, by assumption, by assumption⟩)
    (first
      | (go_at_call 42
         (with_reducible refine (Hsg.out _).mono ?_)
         rintro e w' ⟨rfl, rfl⟩)
      | (go_at_call 41
         (with_reducible refine (Hw1.out _).mono ?_)
         rintro e w5 ⟨rfl, hb5'⟩
         go_must (have hb5 : Below (w.alloc (.cells #[.int .i64 kd, .int .i64 0] 47)).heap.size (w.alloc (.cells #[.int .i64 kd, .int .i64 0] 47)) w5 := by first | exact hb5' | exact below_undrewY hb5' | exact below_undrewX hb5'
                  clear hb5'
                  have hx5 : Below w.heap.size w w5 := hbel0.trans (hb5.mono (by simp))
                  have q1 := (hx5.cell (p := ⟨b, off, none⟩) hb1).trans hc1
                  have q2 := (hx5.cell (p := ⟨b, off + 1, none⟩) hb1).trans hc2
                  have q3 := (hx5.cell (p := ⟨b, off + 2, none⟩) hb1).trans hc3
                  have q4 := (hx5.cell (p := ⟨b, off + 2 + 1, none⟩) hb1).trans hc4
                  have q5 : w5.cell? ⟨w.heap.size, 0, none⟩ = some (.int .i64 kd) := (hb5.cell (p := ⟨w.heap.size, 0, none⟩) (by simp)).trans hM
                  have HX5 := Lib.hid hx5
                  have HB5 := Lib.hid hb5
                  clear hb5 hx5))
      | (go_at_call 41
         (with_reducible refine (Hw2.out _).mono ?_)
         rintro e w6 ⟨rfl, hb6'⟩
         go_must (have hb6 : Below w5.heap.size w5 w6 := by first | exact hb6' | exact below_undrewY hb6' | exact below_undrewX hb6'
                  clear hb6'
                  have hx6 : Below w.heap.size w w6 := HX5.out.trans (hb6.mono HX5.out.size)
                  have r1 := (hx6.cell (p := ⟨b, off, none⟩) hb1).trans hc1
                  have r2 := (hx6.cell (p := ⟨b, off + 1, none⟩) hb1).trans hc2
                  have r3 := (hx6.cell (p := ⟨b, off + 2, none⟩) hb1).trans hc3
                  have r4 := (hx6.cell (p := ⟨b, off + 2 + 1, none⟩) hb1).trans hc4
                  have r5 : w6.cell? ⟨w.heap.size, 0, none⟩ = some (.int .i64 kd) := (hb6.cell (p := ⟨w.heap.size, 0, none⟩) (World.block_lt_of_cell? w5 _ q5)).trans q5
                  have HX6 := Lib.hid hx6
                  clear hb6 hx6))
      | fail)
  go_wp2
  go_ret
  refine ⟨?_, HX6.out⟩
  exact congrArg (fun s => Ending.returned (.string s)) (by rw [bs_append, bs_append]; simp)
end Go.Proofs.YtmcdfbjmbelklaaDoor

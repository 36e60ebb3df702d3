/- The reference model's draw of a number of people and a text that is often that of a term. -/
import Derived.Test.YtmcdfbjmbelklaaDoorDrawN
import Derived.Test.YtmcdfbjmbelklaaDoorReadP
import Derived.Test.YtmcdfbjmbelklaaDoorLawsA
namespace Go.Proofs.YtmcdfbjmbelklaaDoor
open Go.RowKit Go.Joins
theorem text_short (p : Int) (ms : List (Int × Int)) : (textV p ms).length ≤ 60 := by
  by_cases h : termOk p ms = true
  · obtain ⟨_, _, t, ht, rfl⟩ := termOk_iff.1 h
    have := (rdV_len (rdV_text h ht)).1
    rw [textV_of h ht]; exact this
  · rw [textV_no (by simpa using h)]; simp
/-- what the draw of a number of people and a text hands back -/
def OutR (w : World) (e : Ending) (w' : World) : Prop :=
  ∃ (p : Int) (s : List UInt8), 1 ≤ p ∧ p ≤ 8 ∧ e = .returned (.tuple #[.int .i64 p, sv s]) ∧ s.length ≤ 1000 ∧ Below w.heap.size w w'
theorem ext_take (T : List UInt8) (k : Nat) : (⟨T.toArray⟩ : ByteArray).extract 0 k = ⟨(T.take k).toArray⟩ := by
  apply ByteArray.ext
  simp
theorem ext_drop (T : List UInt8) (k : Nat) : (⟨T.toArray⟩ : ByteArray).extract k T.length = ⟨(T.drop k).toArray⟩ := by
  apply ByteArray.ext
  simp
  exact List.take_of_length_le (by simp)
abbrev nineO : Obj := .cells #[sv [], sv [40], sv [41], sv [38], sv [124], sv [61], sv [33], sv [97], sv [54]] 9
def nineL (Z : Nat) : List UInt8 := ([[], [40], [41], [38], [124], [61], [33], [97], [54]] : List (List UInt8)).getD Z []
theorem nine (W : World) (Z : Nat) (hZ : Z < 9) : (nineL Z).length ≤ 1 ∧ (W.alloc nineO).cell? ⟨W.heap.size, Z, none⟩ = some (sv (nineL Z)) ∧ (#[sv [], sv [40], sv [41], sv [38], sv [124], sv [61], sv [33], sv [97], sv [54]] : Array Value)[Z]? = some (sv (nineL Z)) := by
  have h : Z = 0 ∨ Z = 1 ∨ Z = 2 ∨ Z = 3 ∨ Z = 4 ∨ Z = 5 ∨ Z = 6 ∨ Z = 7 ∨ Z = 8 := by omega
  rcases h with rfl | rfl | rfl | rfl | rfl | rfl | rfl | rfl | rfl <;> exact ⟨by decide, World.cell?_alloc_mark W _ _ _ _, rfl⟩
set_option maxRecDepth 100000 in
set_option maxHeartbeats 8000000 in
theorem drawReadTerm (a : Value) (n : Nat) (w : World) (hr : RdBytes w w.heap.size a n) :
    Calls Tryd.prog 15 #[a] w (OutR w) := by
  go_enter Tryd.func15, Tryd.ntmps15
  go_wp2_with fail
  refine (l20Open _ _ _ hr).mono ?_
  rintro e w1 ⟨b, rfl, hb, hrd, hbel⟩
  have hbw := hrd.lt
  go_wp2_with fail
  refine (pick _ _ _ _ hrd (by omega) (by omega) (by omega)).mono ?_
  rintro e w2 ⟨x, hx0, hx1, rfl, hrd2, hg2⟩
  clear hrd
  have hx : x = 0 ∨ x = 1 ∨ x = 2 ∨ x = 3 := by omega
  have hP : Hid (1 ≤ 1 + x ∧ 1 + x ≤ 4) := by unfold Hid; omega
  have hPw : IntKind.i64.wrap (1 + x) = 1 + x := IntWalk.i64_in _ (by omega)
  clear hx
  go_wp2_with fail
  refine (l20Term _ 0 _ _ _ hrd2 hP.out.1 hP.out.2 (by omega) (by omega)).mono ?_
  rintro e w3 ⟨g, n, cap, ms, rfl, hlen, hown, hi, hn, hrd3, hg3⟩
  have hT := text_short (1 + x) ms
  subst hlen
  have hrd3m := RdMarks.of_own (base := w2.heap.size) hown hi
  have Hsp := Lib.hid (specTermText (1 + x) ms _ _ _ hrd3m (Nat.le_refl _))
  generalize textV (1 + x) ms = T at *
  have hG3 := grownBy_trans hg2 hg3
  clear hown hi hg2 hg3 hrd2
  go_wp2_with fail
  refine Hsp.out.mono ?_
  rintro e w4 ⟨rfl, hb4⟩
  have hG4 : w1.grownBy w4 (some b) := grown_own hG3 (only_of_below hb4 none) (fun k hk => by cases hk)
  have hrd4 := hrd3.grown (only_of_below hb4 none) (by simp)
  clear hG3 hrd3 hb4 hrd3m Hsp
  go_wp2_with fail
  refine (pick _ _ _ _ hrd4 (by omega) (by omega) (by omega)).mono ?_
  rintro e w5 ⟨y, hy0, hy1, rfl, hrd5, hg5⟩
  have hG5 := grownBy_trans hG4 hg5
  clear hrd4 hG4 hg5
  by_cases hy : y = 0
  · subst hy
    by_cases hT0 : 0 < T.length
    · have hT0' : (0 : Int) < (T.length : Int) := by omega
      go_wp2_with fail
      refine (pick _ _ _ _ hrd5 (by omega) (by omega) (by omega)).mono ?_
      rintro e w6 ⟨k, hk0, hk1, rfl, hrd6, hg6⟩
      have hG6 := grownBy_trans hG5 hg6
      have Hrd6 := Lib.hid hrd6
      have HG6 := Lib.hid hG6
      clear hrd5 hG5 hg6 hrd6 hG6
      obtain ⟨K, rfl⟩ : ∃ K : Nat, k = K := Int.eq_ofNat_of_zero_le hk0
      have hKT : K < T.length := by omega
      have k1 : (0 : Int) ≤ (K : Int) := by omega
      have k2 : (K : Int) ≤ (T.length : Int) := by omega
      have k3 : K ≤ T.length := by omega
      have hA := ext_take T K
      have hAl : (T.take K).length ≤ 60 := by rw [List.length_take]; omega
      generalize T.take K = A at *
      have hs6 := HG6.out.size
      have hbn : ¬ b = w6.heap.size := by omega
      have h60 : T.length ≤ 60 := hT
      go_wp2_with fail
      go_region_with
        (first
          | (go_at_call 35
             refine (pick _ b _ _ (by exact (Hrd6.out.alloc nineO)) (by omega) (by omega) (by omega)).mono ?_
             rintro e w7 ⟨z, hz0, hz1, rfl, hrd7, hg7'⟩
             have hg7 : (w6.alloc nineO).grownBy w7 (some b) := by first | exact hg7' | exact grownBy_drew0 hg7' | exact grownBy_drewX hg7'
             go_must (clear hg7'
                      have HG7 := Lib.hid (grownBy_trans (only_alloc HG6.out nineO) hg7)
                      obtain ⟨Z, rfl⟩ : ∃ Z : Nat, z = Z := Int.eq_ofNat_of_zero_le hz0
                      have z1 : Z < 9 := by omega
                      have z2 : (Z : Int) < 9 := by omega
                      obtain ⟨hl1, hc6, hq⟩ := nine w6 Z z1
                      have hc7 : w7.cell? ⟨w6.heap.size, Z, none⟩ = some (sv (nineL Z)) := (hg7.cell_far ⟨w6.heap.size, Z, none⟩ (by simp) (by simp; omega)).trans hc6
                      have hn7 : w6.heap.size < w7.heap.size := by have := hg7.size; simp at this; omega
                      clear hc6 hq
                      have Hrd7 := Lib.hid hrd7
                      have hs7 := HG7.out.size
                      generalize hl : nineL Z = l at *
                      have hz1 : ¬ 9223372036854775807 < A.length + l.length := by omega
                      have HL := Lib.hid hl
                      clear hg7 hrd7 hl))
          | (go_at_call 35
             refine (pick _ b _ _ (by exact Hrd6.out) (by omega) (by omega) (by omega)).mono ?_
             rintro e w7 ⟨z, hz0, hz1, rfl, hrd7, hg7'⟩
             have hg7 : (w6).grownBy w7 (some b) := by first | exact hg7' | exact grownBy_drew0 hg7' | exact grownBy_drewX hg7'
             go_must (clear hg7'
                      have HG7 := Lib.hid (grownBy_trans (HG6.out) hg7)
                      obtain ⟨Z, rfl⟩ : ∃ Z : Nat, z = Z := Int.eq_ofNat_of_zero_le hz0
                      have z1 : Z < 9 := by omega
                      have z2 : (Z : Int) < 9 := by omega
                      obtain ⟨hl1, hc6, hq⟩ := nine w7 Z z1
                      have hn7 : b < w7.heap.size := by have := HG7.out.size; omega
                      have Hrd7 := Lib.hid hrd7
                      have hs7 := HG7.out.size
                      generalize hl : nineL Z = l at *
                      have hz1 : ¬ 9223372036854775807 < A.length + l.length := by omega
                      have HL := Lib.hid hl
                      clear hg7 hrd7 hl))
          | (go_at_call 35
             refine (pick _ b _ _ (by exact Hrd7.out) (by omega) (by omega) (by omega)).mono ?_
             rintro e w8 ⟨y2, hy20, hy21, rfl, hrd8, hg8'⟩
             have hg8 : (w7).grownBy w8 (some b) := by first | exact hg8' | exact grownBy_drew0 hg8' | exact grownBy_drewX hg8'
             have hc8 : w8.cell? ⟨w6.heap.size, Z, none⟩ = some (sv l) := (hg8.cell_far ⟨w6.heap.size, Z, none⟩ hn7 (by simp; omega)).trans hc7
             go_must (clear hg8'
                      have HG8 := Lib.hid (grownBy_trans (HG7.out) hg8)
                      obtain ⟨Y, rfl⟩ : ∃ Y : Nat, y2 = Y := Int.eq_ofNat_of_zero_le hy20
                      have y1 : IntKind.i64.wrap ((K : Int) + (Y : Int)) = ((K + Y : Nat) : Int) := by rw [IntWalk.i64_in _ (by omega)]; omega
                      have y2 : ((K + Y : Nat) : Int) ≤ (T.length : Int) := by omega
                      have y3 : (0 : Int) ≤ ((K + Y : Nat) : Int) := by omega
                      have y4 : K + Y ≤ T.length := by omega
                      have hD := ext_drop T (K + Y)
                      have hDl : (T.drop (K + Y)).length ≤ 60 := by rw [List.length_drop]; omega
                      generalize hY : K + Y = YY at *
                      generalize T.drop YY = D at *
                      have hz2 : ¬ 9223372036854775807 < A.length + l.length + D.length := by omega
                      clear hg8 hrd8))
          | (go_at_call 35
             refine (pick _ b _ _ (by exact (Hrd7.out.alloc nineO)) (by omega) (by omega) (by omega)).mono ?_
             rintro e w8 ⟨y2, hy20, hy21, rfl, hrd8, hg8'⟩
             have hg8 : (w7.alloc nineO).grownBy w8 (some b) := by first | exact hg8' | exact grownBy_drew0 hg8' | exact grownBy_drewX hg8'
             have hc8 : w8.cell? ⟨w7.heap.size, Z, none⟩ = some (sv l) := (hg8.cell_far ⟨w7.heap.size, Z, none⟩ (by simp) (by simp; omega)).trans hc6
             go_must (clear hg8'
                      have HG8 := Lib.hid (grownBy_trans (only_alloc HG7.out nineO) hg8)
                      obtain ⟨Y, rfl⟩ : ∃ Y : Nat, y2 = Y := Int.eq_ofNat_of_zero_le hy20
                      have y1 : IntKind.i64.wrap ((K : Int) + (Y : Int)) = ((K + Y : Nat) : Int) := by rw [IntWalk.i64_in _ (by omega)]; omega
                      have y2 : ((K + Y : Nat) : Int) ≤ (T.length : Int) := by omega
                      have y3 : (0 : Int) ≤ ((K + Y : Nat) : Int) := by omega
                      have y4 : K + Y ≤ T.length := by omega
                      have hD := ext_drop T (K + Y)
                      have hDl : (T.drop (K + Y)).length ≤ 60 := by rw [List.length_drop]; omega
                      generalize hY : K + Y = YY at *
                      generalize T.drop YY = D at *
                      have hz2 : ¬ 9223372036854775807 < A.length + l.length + D.length := by omega
                      clear hg8 hrd8))
          | (go_at_call 35
             refine (pick _ b _ _ (by exact Hrd7.out) (by omega) (by omega) (by omega)).mono ?_
             rintro e w8 ⟨y2, hy20, hy21, rfl, hrd8, hg8'⟩
             have hg8 : (w7).grownBy w8 (some b) := by first | exact hg8' | exact grownBy_drew0 hg8' | exact grownBy_drewX hg8'
             have hc8 : (w8.alloc nineO).cell? ⟨w8.heap.size, Z, none⟩ = some (sv l) := by rw [← HL.out]; exact (nine w8 Z z1).2.1
             go_must (clear hg8'
                      have HG8 := Lib.hid (grownBy_trans (HG7.out) hg8)
                      obtain ⟨Y, rfl⟩ : ∃ Y : Nat, y2 = Y := Int.eq_ofNat_of_zero_le hy20
                      have y1 : IntKind.i64.wrap ((K : Int) + (Y : Int)) = ((K + Y : Nat) : Int) := by rw [IntWalk.i64_in _ (by omega)]; omega
                      have y2 : ((K + Y : Nat) : Int) ≤ (T.length : Int) := by omega
                      have y3 : (0 : Int) ≤ ((K + Y : Nat) : Int) := by omega
                      have y4 : K + Y ≤ T.length := by omega
                      have hD := ext_drop T (K + Y)
                      have hDl : (T.drop (K + Y)).length ≤ 60 := by rw [List.length_drop]; omega
                      generalize hY : K + Y = YY at *
                      generalize T.drop YY = D at *
                      have hz2 : ¬ 9223372036854775807 < A.length + l.length + D.length := by omega
                      clear hg8 hrd8))
          | fail)
      all_goals
        have HB := Lib.hid (below_of_grown hbel hb HG8.out)
        clear hbel
        go_wp2
        go_ret2
        refine ⟨1 + x, A ++ l ++ D, hP.out.1, by have := hP.out.2; omega, ?_, by simp only [List.length_append]; omega, ?_⟩
        · exact congrArg (fun u => Ending.returned (.tuple #[.int .i64 (1 + x), .string u])) (by rw [bs_append, bs_append])
        · first | exact HB.out | exact HB.out.alloc HB.out.size _
    · have hT0' : ¬ (0 : Int) < (T.length : Int) := by omega
      have HB := Lib.hid (below_of_grown hbel hb hG5)
      clear hrd5 hG5 hbel
      go_wp2
      go_ret2
      exact ⟨_, T, hP.out.1, by have := hP.out.2; omega, rfl, by omega, HB.out⟩
  · have HB := Lib.hid (below_of_grown hbel hb hG5)
    have hyb : (y == 0) = false := by rw [beq_eq_false_iff_ne]; exact hy
    clear hrd5 hG5 hbel
    go_wp2
    go_ret2
    exact ⟨_, T, hP.out.1, by have := hP.out.2; omega, rfl, by omega, HB.out⟩
end Go.Proofs.YtmcdfbjmbelklaaDoor

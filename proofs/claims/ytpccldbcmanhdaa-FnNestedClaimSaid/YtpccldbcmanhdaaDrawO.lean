/- Draws for the laws of odd claims. -/
import Derived.Test.YtpccldbcmanhdaaDrawC
namespace Go.Proofs.Ytpccldbcmanhdaa
open Go.RowKit Go.Joins
set_option maxHeartbeats 1000000 in
theorem drawSayCount (a : Value) (n : Nat) (w : World) (hr : RdBytes w w.heap.size a n) :
    Calls Try.prog 17 #[a] w (OutC w) := by
  go_enter Try.func17, Try.ntmps17
  go_upto_region 1 with fail
  obtain ⟨w1, hw1, hx1, hbw1, hsz⟩ := Box.new w (.int .i64 0) (.slice none 0 0) TC
  have Hr1 := Lib.hid (hr.up hbw1)
  rw [← hw1]
  clear hw1 hr
  go_wp2_with fail
  refine (l20Open _ _ _ Hr1.out).mono ?_
  rintro e w2 ⟨b, rfl, hb, hrd2, hbel⟩
  have hx2 := hx1.below hbel
  have hB2 := hbw1.trans (hbel.mono hbw1.size)
  have hs2 := hB2.size
  clear hbel hx1 hbw1 Hr1
  go_wp2_with fail
  refine (l20Claimed 9 b 0 _ hrd2 (by omega) (by omega)).mono ?_
  rintro e w3 ⟨p, k, g, cap, ms, hp1, hp4, rfl, hown, hi, hn20, hk1, hk4, hrd3, hg3⟩
  have hx3 := hx2.grown hg3 (by simp; omega)
  obtain ⟨w4, e4, hx4, hg4⟩ := hx3.set (.int .i64 k) (.slice (some ⟨g, 0, none⟩) ms.length cap)
  have hsz2 := hx2.2.2.2.2
  have hout : OutC w (.returned (.tuple #[.int .i64 p, .agg #[.int .i64 k, .slice (some ⟨g, 0, none⟩) ms.length cap]])) w4 :=
    ⟨p, k, g, cap, ms, hp1, by omega, rfl, own_mono (own_row hown hg4 hsz2) hs2, hi, hn20, hk1, hk4, below_row (below_row hB2 hg3 (fun q hq => by cases hq; omega)) hg4 (fun q hq => by cases hq; exact Nat.le_refl _)⟩
  have Hout := Lib.hid hout
  have E4 := Lib.hid e4
  obtain ⟨x1, x2, x3, x4, x5⟩ := hx3
  clear hg3 hx2 hrd2 hout hown hi hg4 e4 hrd3 hB2
  go_wp2
  rw [← E4.out]
  obtain ⟨z1, z2, _⟩ := hx4
  exact bodyPost_ret (by simp [results, Try.results17, go_sem, z1, z2]) rfl Hout.out
/-- what a draw of a number of people, a person and a claim hands back -/
def OutCN (w : World) (e : Ending) (w' : World) : Prop :=
  ∃ (p k : Int) (g cap : Nat) (ms : List (Int × Int)) (x : Int), 1 ≤ p ∧ p ≤ 4 ∧ e = .returned (.tuple #[.int .i64 p, .int .i64 x, .agg #[.int .i64 k, .slice (some ⟨g, 0, none⟩) ms.length cap]]) ∧ w'.ownsRow w.heap.size TM 2 (.slice (some ⟨g, 0, none⟩) ms.length cap) ms.length (mcells ms) ∧ I64s ms ∧ ms.length ≤ 20 ∧ -1 ≤ k ∧ k ≤ 4 ∧ 0 ≤ x ∧ x ≤ 100 ∧ Below w.heap.size w w'
set_option maxRecDepth 100000 in
set_option maxHeartbeats 2000000 in
theorem drawNestedClaim (a : Value) (n : Nat) (w : World) (hr : RdBytes w w.heap.size a n) :
    Calls Try.prog 32 #[a] w (OutCN w) := by
  go_enter Try.func32, Try.ntmps32
  go_upto_region 1 with fail
  obtain ⟨w1, hw1, hx1, hbw1, hsz⟩ := Box.new w (.int .i64 0) (.slice none 0 0) TC
  have Hr1 := Lib.hid (hr.up hbw1)
  rw [← hw1]
  clear hw1 hr
  go_wp2_with fail
  refine (l20Open _ _ _ Hr1.out).mono ?_
  rintro e w2 ⟨b, rfl, hb, hrd2, hbel⟩
  have hx2 := hx1.below hbel
  have hB2 := hbw1.trans (hbel.mono hbw1.size)
  have hs2 := hB2.size
  have hbw2 := hrd2.lt
  clear hbel hx1 hbw1 Hr1
  go_wp2_with fail
  refine (l20Claimed 12 b 0 _ hrd2 (by omega) (by omega)).mono ?_
  rintro e w3 ⟨p, k, g, cap, ms, hp1, hp4, rfl, hown, hi, hn20, hk1, hk4, hrd3, hg3⟩
  have hx3 := hx2.grown hg3 (by simp; omega)
  have hsz2 := hx2.2.2.2.2
  have hB3 := below_row hB2 hg3 (fun q hq => by cases hq; omega)
  have hs3 := hg3.size
  clear hx2 hrd2 hg3
  go_upto_region 3 with fail
  obtain ⟨w4, hw4, hy4, hb4, hsz4⟩ := Box.new w3 (.int .i64 k) (.slice (some ⟨g, 0, none⟩) ms.length cap) TC
  have hrd4 : Rd w4 b (0 + 104) := by rw [hw4]; exact hrd3.alloc _
  have hown4 : w4.ownsRow w2.heap.size TM 2 (.slice (some ⟨g, 0, none⟩) ms.length cap) ms.length (mcells ms) := by rw [hw4]; exact hown.alloc _
  have hx4 := hx3.below hb4
  have hB4 := hB3.trans (hb4.mono hB3.size)
  rw [← hw4]
  clear hw4 hx3 hb4 hrd3 hown hB3
  have Hx4 := Lib.hid hx4
  have Hrd4 := Lib.hid hrd4
  have Hown4 := Lib.hid hown4
  have HB4 := Lib.hid hB4
  have Hy4 := Lib.hid hy4
  have hs4 := hB4.size
  obtain ⟨y1, y2, y3, y4, y5⟩ := hy4
  have hne1 : ¬ w3.heap.size = w.heap.size := by omega
  have hne2 : ¬ w.heap.size = w3.heap.size := by omega
  clear hx4 hrd4 hown4 hB4 hB2
  go_region_held3 (fun w' => w'.cell? ⟨w3.heap.size, 0, none⟩ = some (.int .i64 k) ∧ w'.cell? ⟨w3.heap.size, 1, none⟩ = some (.slice (some ⟨g, 0, none⟩) ms.length cap))
    (first | (refine ⟨?_, ?_⟩ <;> first | go_keep | assumption) | assumption)
    (first
      | (go_at_call 69
         (with_reducible refine (pick p b (0 + 104) _ ?_ ?_ ?_ ?_).mono ?_)
         · exact Hrd4.out
         · omega
         · omega
         · omega
         rintro e w5 ⟨y, hy0, hy1, rfl, hrd5, hg5'⟩
         go_must (have hg5 : w4.grownBy w5 (some b) := by first | exact hg5' | exact grownBy_drew0 hg5' | exact grownBy_drewX hg5'
                  clear hg5'
                  have HX5 := Lib.hid (Hx4.out.grown hg5 (by simp; omega))
                  have hy5 := Hy4.out.grown hg5 (by simp; omega)
                  have HB5 := Lib.hid (below_row HB4.out hg5 (fun q hq => by cases hq; omega))
                  have Hown5 := Lib.hid (own_row Hown4.out hg5 hbw2)
                  have Hy5 := Lib.hid hy5
                  obtain ⟨t1, t2, t3, t4, t5⟩ := hy5
                  have Hrd5 := Lib.hid hrd5
                  clear hg5 hrd5))
      | (go_at_call 69
         (with_reducible refine (pick 40 b (0 + 104 + 1) _ ?_ ?_ ?_ ?_).mono ?_)
         · exact Hrd5.out
         · omega
         · omega
         · omega
         rintro e w6 ⟨z, hz0, hz1, rfl, hrd6, hg6'⟩
         go_must (have hg6 : w5.grownBy w6 (some b) := by first | exact hg6' | exact grownBy_drew0 hg6' | exact grownBy_drewX hg6'
                  clear hg6'
                  have hx6 := HX5.out.grown hg6 (by simp; omega)
                  have hy6 := Hy5.out.grown hg6 (by simp; omega)
                  have HB6 := Lib.hid (below_row HB5.out hg6 (fun q hq => by cases hq; omega))
                  have Hown6 := Lib.hid (own_row Hown5.out hg6 hbw2)
                  have HX6 := Lib.hid hx6
                  obtain ⟨x1, x2, x3, x4, x5⟩ := hx6
                  obtain ⟨u1, u2, u3, u4, u5⟩ := hy6
                  have hz39 : Int.tdiv z 39 = 0 ∨ Int.tdiv z 39 = 1 := by rw [Int.tdiv_eq_ediv_of_nonneg hz0]; omega
                  obtain ⟨Z, hZ⟩ : ∃ Z : Int, Int.tdiv z 39 = Z := ⟨_, rfl⟩
                  rw [hZ] at hz39
                  have hzw : IntKind.i64.wrap Z = Z := IntWalk.i64_in _ (by omega)
                  have hz2 : IntKind.i64.wrap (Z * 4) = Z * 4 := IntWalk.i64_in _ (by omega)
                  have hz3 : IntKind.i64.wrap (y + Z * 4) = y + Z * 4 := IntWalk.i64_in _ (by omega)
                  clear hg6 hrd6))
      | fail)
  go_wp2
  obtain ⟨w7, e7, hx7, hg7⟩ := HX6.out.set (.int .i64 k) (.slice (some ⟨g, 0, none⟩) ms.length cap)
  rw [← e7]
  obtain ⟨z1, z2, _⟩ := hx7
  exact bodyPost_ret (by simp [results, Try.results32, go_sem, z1, z2]) rfl
    ⟨p, k, g, cap, ms, y + Z * 4, hp1, hp4, rfl, own_mono (own_row Hown6.out hg7 hsz2) hs2, hi, hn20, hk1, hk4, by omega, by omega, below_row HB6.out hg7 (fun q hq => by cases hq; exact Nat.le_refl _)⟩
end Go.Proofs.Ytpccldbcmanhdaa

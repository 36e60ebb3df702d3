/- The reference model's draws of stage 3: a term and a world, two terms. -/
import Derived.Test.YtemldnjpcnogpaaDrawN
import Derived.OwnWalk
namespace Go.Proofs.Ytemldnjpcnogpaa
open Go.RowKit Go.Joins

/-- what a draw of a number of people, a row of marks and a world hands back -/
def OutH (w : World) (e : Ending) (w' : World) : Prop :=
  ∃ (p : Int) (g n cap : Nat) (ms : List (Int × Int)) (x : Int), 1 ≤ p ∧ p ≤ 4 ∧ e = .returned (.tuple #[.int .i64 p, .slice (some ⟨g, 0, none⟩) n cap, .int .i64 x]) ∧ ms.length = n ∧ w'.ownsRow w.heap.size TM 2 (.slice (some ⟨g, 0, none⟩) n cap) n (mcells ms) ∧ I64s ms ∧ n ≤ 20 ∧ 0 ≤ x ∧ x ≤ 100 ∧ Below w.heap.size w w'
set_option maxRecDepth 100000 in
set_option maxHeartbeats 2000000 in
theorem l20Held (m : Nat) (b c : Nat) (w : World) (hrd : Rd w b c) (hm : m ≤ 1099511627776) (hc : c ≤ 274877906944) :
    Calls Try.prog 43 #[.pointer (some ⟨b, 0, none⟩), .int .i64 m] w fun e w' =>
      ∃ (p : Int) (g n cap : Nat) (ms : List (Int × Int)) (x : Int), 1 ≤ p ∧ p ≤ 4 ∧ e = .returned (.tuple #[.int .i64 p, .slice (some ⟨g, 0, none⟩) n cap, .int .i64 x]) ∧ ms.length = n ∧ w'.ownsRow w.heap.size TM 2 (.slice (some ⟨g, 0, none⟩) n cap) n (mcells ms) ∧ I64s ms ∧ n ≤ 20 ∧ 0 ≤ x ∧ x ≤ 100 ∧ w.grownBy w' (some b) ∧ Rd w' b (c + 110) := by
  have hbw := hrd.lt
  go_enter Try.func43, Try.ntmps43
  go_wp2_with fail
  refine (pick _ _ _ _ hrd (by omega) (by omega) (by omega)).mono ?_
  rintro e w1 ⟨x, hx0, hx1, rfl, hrd1, hg1⟩
  clear hrd
  have hPw : IntKind.i64.wrap (1 + x) = 1 + x := IntWalk.i64_in _ (by omega)
  have hsh : wrap64 (2 ^ min (1 + x).toNat 64) = ((2 ^ (1 + x).toNat : Nat) : Int) := by
    have h : x = 0 ∨ x = 1 ∨ x = 2 ∨ x = 3 := by omega
    rcases h with rfl | rfl | rfl | rfl <;> decide +kernel
  have hsh2 : IntKind.i64.wrap (2 ^ (1 + x).toNat) = ((2 ^ (1 + x).toNat : Nat) : Int) := by
    have h : x = 0 ∨ x = 1 ∨ x = 2 ∨ x = 3 := by omega
    rcases h with rfl | rfl | rfl | rfl <;> decide +kernel
  have hN16 : 2 ^ (1 + x).toNat ≤ 16 := by
    have h : x = 0 ∨ x = 1 ∨ x = 2 ∨ x = 3 := by omega
    rcases h with rfl | rfl | rfl | rfl <;> decide
  have hN1 : 1 ≤ 2 ^ (1 + x).toNat := Nat.one_le_two_pow
  have hP1 : 1 ≤ 1 + x := by omega
  have hP4 : 1 + x ≤ 4 := by omega
  clear hx0 hx1
  go_wp2_with fail
  have hbw1 := hrd1.lt
  have hs1 := hg1.size
  have hmn : min (1 + x).toNat 64 = (1 + x).toNat := by omega
  generalize hQ : (2 ^ (1 + x).toNat : Nat) = Q at *
  rw [hmn] at hsh
  clear hmn hQ
  generalize 1 + x = P at *
  have Hrd1 := Lib.hid hrd1
  have HG1 := Lib.hid hg1
  clear hrd1 hg1
  go_region_held3 (fun _ => True)
    (first | go_keep | trivial)
    (first
      | (go_at_call 52
         (with_reducible refine (l20Term P m b (c + 1) _ ?_ hP1 hP4 hm ?_).mono ?_)
         · exact Hrd1.out
         · omega
         rintro e w2 ⟨g, n, cap, ms, rfl, hlen, hown, hi, hn, hrd2, hg2'⟩
         go_must (have hg2 : w1.grownBy w2 (some b) := by first | exact hg2' | exact grownBy_drew0 hg2' | exact grownBy_drewX hg2'
                  clear hg2'
                  have HG2 := Lib.hid (grownBy_trans HG1.out hg2)
                  have Hrd2 := Lib.hid hrd2
                  have Hown := Lib.hid (show w2.ownsRow w1.heap.size TM 2 (.slice (some ⟨g, 0, none⟩) n cap) n (mcells ms) from hown)
                  have Hlen := Lib.hid hlen
                  have Hi := Lib.hid hi
                  have hs2 := hg2.size
                  clear hg2 hrd2 hown hlen hi))
      | (go_at_call 44
         (with_reducible refine (pick (Q : Int) b (c + 1 + 100) _ ?_ ?_ ?_ ?_).mono ?_)
         · exact Hrd2.out
         · omega
         · omega
         · omega
         rintro e w3 ⟨y, hy0, hy1, rfl, hrd3, hg3'⟩
         go_must (have hg3 : w2.grownBy w3 (some b) := by first | exact hg3' | exact grownBy_drew0 hg3' | exact grownBy_drewX hg3'
                  clear hg3'
                  have HG3 := Lib.hid (grownBy_trans HG2.out hg3)
                  have Hown3 := Lib.hid (own_row Hown.out hg3 hbw1)
                  have Hrd3 := Lib.hid hrd3
                  have hs3 := hg3.size
                  clear hg3 hrd3))
      | (go_at_call 44
         (with_reducible refine (pick 40 b (c + 1 + 100 + 1) _ ?_ ?_ ?_ ?_).mono ?_)
         · exact Hrd3.out
         · omega
         · omega
         · omega
         rintro e w4 ⟨z, hz0, hz1, rfl, hrd4, hg4'⟩
         go_must (have hg4 : w3.grownBy w4 (some b) := by first | exact hg4' | exact grownBy_drew0 hg4' | exact grownBy_drewX hg4'
                  clear hg4'
                  have HG4 := Lib.hid (grownBy_trans HG3.out hg4)
                  have Hown4 := Lib.hid (own_row Hown3.out hg4 (by omega))
                  have hz39 : Int.tdiv z 39 = 0 ∨ Int.tdiv z 39 = 1 := by rw [Int.tdiv_eq_ediv_of_nonneg hz0]; omega
                  obtain ⟨Z, hZ⟩ : ∃ Z : Int, Int.tdiv z 39 = Z := ⟨_, rfl⟩
                  rw [hZ] at hz39
                  have hzw : IntKind.i64.wrap Z = Z := IntWalk.i64_in _ (by omega)
                  have hz2 : IntKind.i64.wrap (Z * 16) = Z * 16 := IntWalk.i64_in _ (by omega)
                  have hz3 : IntKind.i64.wrap (y + Z * 16) = y + Z * 16 := IntWalk.i64_in _ (by omega)
                  have Hrd4 := Lib.hid hrd4
                  clear hg4 hrd4))
      | fail)
  go_wp2
  go_ret3
  exact ⟨P, g, n, cap, ms, y + Z * 16, hP1, hP4, rfl, Hlen.out, own_mono Hown4.out hs1, Hi.out, hn, by omega, by omega, HG4.out, Hrd4.out.mono (by omega)⟩
/-- what a draw of a number of people and two rows of marks hands back -/
def OutW (w : World) (e : Ending) (w' : World) : Prop :=
  ∃ (p : Int) (ga ca gb cb : Nat) (xs ys : List (Int × Int)), 1 ≤ p ∧ p ≤ 8 ∧ e = .returned (.tuple #[.int .i64 p, .slice (some ⟨ga, 0, none⟩) xs.length ca, .slice (some ⟨gb, 0, none⟩) ys.length cb]) ∧
    w'.ownsRow w.heap.size TM 2 (.slice (some ⟨ga, 0, none⟩) xs.length ca) xs.length (mcells xs) ∧ w'.ownsRow w.heap.size TM 2 (.slice (some ⟨gb, 0, none⟩) ys.length cb) ys.length (mcells ys) ∧ I64s xs ∧ I64s ys ∧ xs.length ≤ 20 ∧ ys.length ≤ 100 ∧ Below w.heap.size w w'
end Go.Proofs.Ytemldnjpcnogpaa

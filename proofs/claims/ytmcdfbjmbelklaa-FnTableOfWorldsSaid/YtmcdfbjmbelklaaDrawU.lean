/- The reference model's drawn list of worlds. -/
import Derived.Test.YtmcdfbjmbelklaaDrawP
import Derived.Test.YtmcdfbjmbelklaaDrawT
import Derived.Test.YtmcdfbjmbelklaaLawsA
namespace Go.Proofs.Ytmcdfbjmbelklaa
open Go.RowKit Go.Joins
attribute [local irreducible] heads turned tabOf wl

/-- what a draw of a number of people and a list of numbers hands back -/
def OutL (w : World) (e : Ending) (w' : World) : Prop :=
  ∃ (p : Int) (g cap : Nat) (zs : List Int), 1 ≤ p ∧ p ≤ 8 ∧ e = .returned (.tuple #[.int .i64 p, .slice (some ⟨g, 0, none⟩) zs.length cap]) ∧ w'.ownsRow w.heap.size 3 1 (.slice (some ⟨g, 0, none⟩) zs.length cap) zs.length (ints zs) ∧ zs.length ≤ 6 ∧ (∀ z ∈ zs, 0 ≤ z ∧ z ≤ 64) ∧ Below w.heap.size w w'
theorem ints_snoc (zs : List Int) (z : Int) : ints (zs ++ [z]) = ints zs ++ [.int .i64 z] := by simp [ints]
theorem ints_len (zs : List Int) : (ints zs).length = zs.length := by simp [ints]

set_option maxRecDepth 100000 in
set_option maxHeartbeats 2000000 in
theorem drawTableOfWorlds (a : Value) (n : Nat) (w : World) (hr : RdBytes w w.heap.size a n) :
    Calls Try.prog 10 #[a] w (OutL w) := by
  obtain ⟨i0, hi, hz0, hz1, hz2⟩ := info_parts Try.info3
  have Hi := Lib.hid hi; clear hi
  have Hz0 := Lib.hid hz0; clear hz0
  have Hz1 := Lib.hid hz1; clear hz1
  have Hz2 := Lib.hid hz2; clear hz2
  go_enter Try.func10, Try.ntmps10
  go_wp2_with fail
  refine (l20Open _ _ _ hr).mono ?_
  rintro e w1 ⟨b, rfl, hb, hrd, hbel⟩
  have hbw := hrd.lt
  go_wp2_with fail
  refine (pick _ _ _ _ hrd (by omega) (by omega) (by omega)).mono ?_
  rintro e w2 ⟨x, hx0, hx1, rfl, hrd2, hg2⟩
  clear hrd
  have hG2 : w1.grownBy (w2.alloc (.cells #[] 3)) (some b) := only_alloc hg2 _
  have hown2 : (w2.alloc (.cells #[] 3)).ownsRow w1.heap.size 3 1 (.slice (some ⟨w2.heap.size, 0, none⟩) 0 0) 0 (ints []) := World.ownsRow_made _ _ 0 hg2.size (Nat.zero_le _) rfl
  have hrd2' := hrd2.alloc (.cells #[] 3)
  clear hg2 hrd2
  go_wp2_with fail
  refine (pick _ _ _ _ hrd2' (by omega) (by omega) (by omega)).mono ?_
  rintro e w3 ⟨y, hy0, hy1, rfl, hrd3, hg3⟩
  obtain ⟨Y, rfl⟩ := Int.eq_ofNat_of_zero_le hy0
  have hG3 := grownBy_trans hG2 hg3
  have hown3 := own_row hown2 hg3 hbw
  clear hrd2' hG2 hg3 hown2
  generalize hP : (1 + x : Int) = P at *
  have hP1 : 1 ≤ P := by omega
  have hP4 : P ≤ 4 := by omega
  clear hP hx0 hx1
  have hN := cnt_of P
  obtain ⟨hN2, hN16⟩ := two_pow_N hP1 hP4
  generalize (2 : Nat) ^ P.toNat = N at *
  have hNe := hN.out
  have hsh : wrap64 (2 ^ P.toNat) = (N : Int) := by rw [← hNe]; unfold wrap64; omega
  clear hNe
  go_wp2_with fail
  go_loopw [6, 7] (fun v i wr => ∃ (k : Nat) (zs : List Int) (g cap : Nat), k + zs.length ≤ 6 ∧ i = .int .i64 k ∧ v = .slice (some ⟨g, 0, none⟩) zs.length cap ∧ wr.ownsRow w1.heap.size 3 1 v zs.length (ints zs) ∧ Hid (∀ z ∈ zs, 0 ≤ z ∧ z ≤ 64) ∧ Rd wr b (2 + 2 * zs.length) ∧ w1.grownBy wr (some b))
    (fun _ i _ => (intOf i).toNat)
  case atStart => exact ⟨Y, [], _, _, by simp; omega, rfl, rfl, hown3, by intro z hz; simp at hz, hrd3, hG3⟩
  case round =>
    clear hown3 hrd3 hG3
    obtain ⟨k, zs, g, cap, hk, rfl, rfl, hown, hall, hrk, hGk⟩ := hrel
    by_cases hlt : 0 < k
    · obtain ⟨k, rfl⟩ : ∃ j, k = j + 1 := ⟨k - 1, by omega⟩
      go_wp2_with fail
      refine (pick _ _ _ _ hrk (by omega) (by omega) (by omega)).mono ?_
      rintro e w4 ⟨z, hz0, hz1, rfl, hrd4, hg4⟩
      have hown4 := own_row hown hg4 hbw
      have hG4 := grownBy_trans hGk hg4
      clear hown hGk hg4 hrk
      go_wp2_with fail
      refine (pick _ _ _ _ hrd4 (by omega) (by omega) (by omega)).mono ?_
      rintro e w5 ⟨u, hu0, hu1, rfl, hrd5, hg5⟩
      have hown5 := own_row hown4 hg5 hbw
      have hG5 := grownBy_trans hG4 hg5
      have hs5 := hG5.size
      clear hown4 hG4 hg5 hrd4
      have hzu : 0 ≤ z + u / 59 * 16 ∧ z + u / 59 * 16 ≤ 64 := by omega
      have Hzu := Lib.hid hzu; clear hzu
      have hz16 : z ≤ 16 := by omega
      have hu1' : u < 60 := hu1
      clear hz1
      generalize hL : zs.length = L at *
      have HL := Lib.hid hL; clear hL
      go_wp2_with (first
        | (at_builtin
           refine wpList_append_own _ rfl (.tmp 20) (.tmp 30) 23 rfl w1.heap.size 3 i0 (.int .i64 0) 1 8 Try.underlying23 Hi.out Hz0.out Hz1.out Hz2.out rfl (by decide) (.slice (some ⟨g, 0, none⟩) L cap) L (ints zs) rfl (hown5.alloc _) ⟨w5.heap.size, 0, none⟩ 1 1 [.int .i64 (z + u / 59 * 16)] rfl rfl (news1 _ _ rfl _ _) (by simp [Value.oneCell']) (by unfold maxLen; omega) (by omega) ?_ ?_
           go_must (simp; omega)
           go_must (intro v6 w6 hown6 hgr6 _
                    obtain ⟨g6, c6, rfl⟩ := ownsRow_form hown6 (by omega)
                    have hG6 := grown_own (only_alloc hG5 (.cells #[.int .i64 (z + u / 59 * 16)] 3)) hgr6 (fun k hk => (hown5.lt k hk).1)
                    have hrd6 := (hrd5.alloc (.cells #[.int .i64 (z + u / 59 * 16)] 3)).grown hgr6 (own_row_block hown5 hbw)
                    have HG6 := Lib.hid hG6
                    have Hrd6 := Lib.hid hrd6
                    have Hown6 := Lib.hid hown6
                    clear hG6 hrd6 hown6 hgr6))
        | fail)
      go_roundw
      case rel => exact ⟨k, zs ++ [z + u / 59 * 16], g6, c6, by simp [HL.out]; omega, by go_num, by simp [HL.out], by rw [ints_snoc]; simpa [HL.out] using Hown6.out, by
        intro q hq
        rcases List.mem_append.1 hq with hq | hq
        · exact hall.out q hq
        · simp at hq; subst hq; exact Hzu.out, Hrd6.out.mono (by simp [HL.out]; omega), HG6.out⟩
      case measure => simp [intOf]
    · obtain rfl : k = 0 := by omega
      go_wp2_with fail
      refine (pick _ _ _ _ hrk (by omega) (by omega) (by omega)).mono ?_
      rintro e w4 ⟨z, hz0, hz1, rfl, hrd4, hg4⟩
      have hown4 := own_row hown hg4 hbw
      have HB := Lib.hid (below_of_grown hbel hb (grownBy_trans hGk hg4))
      have Hown4 := Lib.hid (own_mono hown4 hbel.size)
      clear hown hGk hg4 hrk hown4 hrd4 hbel
      generalize hL : zs.length = L at *
      have HL := Lib.hid hL; clear hL
      go_wp2
      go_ret2
      exact ⟨P + z / 39 * 4, g, cap, zs, by omega, by omega, by rw [HL.out]; rfl, by rw [HL.out]; exact Hown4.out, by rw [HL.out]; omega, hall.out, HB.out⟩
end Go.Proofs.Ytmcdfbjmbelklaa

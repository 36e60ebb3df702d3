/- The reference model's draws of questions. -/
import Derived.Test.YtemldnjpcnogpaaDrawH
import Derived.Test.YtemldnjpcnogpaaDrawP
import Derived.Test.YtemldnjpcnogpaaAsk
import Derived.OwnWalk
namespace Go.Proofs.Ytemldnjpcnogpaa
open Go.RowKit Go.Joins
/-- what a draw of a number of people, a person, a row of marks and a world hands back -/
def OutA (w : World) (e : Ending) (w' : World) : Prop :=
  ∃ (p k : Int) (g cap : Nat) (ms : List (Int × Int)) (x : Int), 1 ≤ p ∧ p ≤ 4 ∧ 0 ≤ k ∧ k ≤ 8 ∧ e = .returned (.tuple #[.int .i64 p, .int .i64 k, .slice (some ⟨g, 0, none⟩) ms.length cap, .int .i64 x]) ∧ w'.ownsRow w.heap.size TM 2 (.slice (some ⟨g, 0, none⟩) ms.length cap) ms.length (mcells ms) ∧ I64s ms ∧ ms.length ≤ 20 ∧ 0 ≤ x ∧ x ≤ 100 ∧ Below w.heap.size w w'
/-- what a draw of a number of people, a person and a row of marks hands back -/
def OutB (w : World) (e : Ending) (w' : World) : Prop :=
  ∃ (p k : Int) (g cap : Nat) (ms : List (Int × Int)), 1 ≤ p ∧ p ≤ 4 ∧ 0 ≤ k ∧ k ≤ 8 ∧ e = .returned (.tuple #[.int .i64 p, .int .i64 k, .slice (some ⟨g, 0, none⟩) ms.length cap]) ∧ w'.ownsRow w.heap.size TM 2 (.slice (some ⟨g, 0, none⟩) ms.length cap) ms.length (mcells ms) ∧ I64s ms ∧ ms.length ≤ 30 ∧ Below w.heap.size w w'
/-- what a draw of a number of people, a list of people and a row of marks hands back -/
def OutLB (w : World) (e : Ending) (w' : World) : Prop :=
  ∃ (p : Int) (gl cl g cap : Nat) (zs : List Int) (ms : List (Int × Int)), 1 ≤ p ∧ p ≤ 4 ∧ e = .returned (.tuple #[.int .i64 p, .slice (some ⟨gl, 0, none⟩) zs.length cl, .slice (some ⟨g, 0, none⟩) ms.length cap]) ∧
    w'.ownsRow w.heap.size 3 1 (.slice (some ⟨gl, 0, none⟩) zs.length cl) zs.length (ints zs) ∧ zs.length ≤ 6 ∧ (∀ z ∈ zs, 0 ≤ z ∧ z ≤ 64) ∧ w'.ownsRow w.heap.size TM 2 (.slice (some ⟨g, 0, none⟩) ms.length cap) ms.length (mcells ms) ∧ I64s ms ∧ ms.length ≤ 20 ∧ Below w.heap.size w w'
theorem I64s_ctermV7 {p k : Int} {ms : List (Int × Int)} (hi : I64s ms) : I64s (ctermV p (k, ms)) := by
  cases h : claimOk p (k, ms) with
  | false => rw [ctermV_no h]; intro m hm; simp at hm
  | true =>
    obtain ⟨K, _, rfl, hK, _⟩ := claim_parts h
    rw [ctermV_yes h]
    exact I64s_cterm7 (I64_small (by omega) (by omega)) hi
theorem div39 {z : Int} (h0 : 0 ≤ z) (h1 : z < 40) : 0 ≤ z / 39 ∧ z / 39 ≤ 1 := by omega
set_option maxRecDepth 100000 in
set_option maxHeartbeats 2000000 in
theorem drawAnswerIn (a : Value) (n : Nat) (w : World) (hr : RdBytes w w.heap.size a n) :
    Calls Try.prog 13 #[a] w (OutA w) := by
  go_enter Try.func13, Try.ntmps13
  go_wp2_with fail
  refine (l20Open _ _ _ hr).mono ?_
  rintro e w1 ⟨b, rfl, hb, hrd, hbel⟩
  have hbw := hrd.lt
  go_wp2_with fail
  refine (l20Held 14 _ _ _ hrd (by omega) (by omega)).mono ?_
  rintro e w2 ⟨p, g, n, cap, ms, x, hp1, hp4, rfl, rfl, hown, hi, hn, hx0, hx1, hg2, hrd2⟩
  go_wp2_with fail
  refine (pick p b _ _ hrd2 (by omega) (by omega) (by omega)).mono ?_
  rintro e w3 ⟨y, hy0, hy1, rfl, hrd3, hg3⟩
  have hown3 := own_row hown hg3 (by omega)
  have hG3 := grownBy_trans hg2 hg3
  go_wp2_with fail
  refine (pick 40 b _ _ hrd3 (by omega) (by omega) (by omega)).mono ?_
  rintro e w4 ⟨z, hz0, hz1, rfl, hrd4, hg4⟩
  have Hown4 := Lib.hid (own_mono (own_row hown3 hg4 (by omega)) hbel.size)
  have HB := Lib.hid (below_of_grown hbel hb (grownBy_trans hG3 hg4))
  have Hi := Lib.hid hi
  clear hrd hrd2 hrd3 hrd4 hg2 hg3 hg4 hG3 hown hown3 hbel hi
  go_wp2
  exact bodyPost_ret (v := .tuple #[.int .i64 p, .int .i64 (y + z / 39 * 4), .slice (some ⟨g, 0, none⟩) ms.length cap, .int .i64 x]) (by simp [results, Try.results13, go_sem]) rfl ⟨p, y + z / 39 * 4, g, cap, ms, x, hp1, hp4, by omega, by omega, rfl, Hown4.out, Hi.out, hn, hx0, hx1, HB.out⟩
set_option maxRecDepth 100000 in
set_option maxHeartbeats 2000000 in
theorem drawTrickTerm (a : Value) (n : Nat) (w : World) (hr : RdBytes w w.heap.size a n) :
    Calls Try.prog 20 #[a] w (OutB w) := by
  go_enter Try.func20, Try.ntmps20
  go_wp2_with fail
  refine (l20Open _ _ _ hr).mono ?_
  rintro e w1 ⟨b, rfl, hb, hrd, hbel⟩
  have hbw := hrd.lt
  go_wp2_with fail
  refine (pick 4 b 0 _ hrd (by omega) (by omega) (by omega)).mono ?_
  rintro e w2 ⟨x, hx0, hx1, rfl, hrd2, hg2⟩
  have hP1 : 1 ≤ 1 + x := by omega
  have hP4 : 1 + x ≤ 4 := by omega
  clear hx0 hx1
  go_wp2_with fail
  generalize 1 + x = p at *
  refine (pick p b (0 + 1) _ hrd2 (by omega) (by omega) (by omega)).mono ?_
  rintro e w3 ⟨y, hy0, hy1, rfl, hrd3, hg3⟩
  have hG3 := grownBy_trans hg2 hg3
  go_wp2_with fail
  refine (pick 40 b (0 + 1 + 1) _ hrd3 (by omega) (by omega) (by omega)).mono ?_
  rintro e w4 ⟨z, hz0, hz1, rfl, hrd4, hg4⟩
  have hG4 := grownBy_trans hG3 hg4
  have hs4 := hG4.size
  go_wp2_with fail
  refine (l20Term p 12 b (0 + 1 + 1 + 1) _ hrd4 hP1 hP4 (by omega) (by omega)).mono ?_
  rintro e w5 ⟨g, n, cap, ms, rfl, rfl, hown, hi, hn, hrd5, hg5⟩
  have Hown5 := Lib.hid (own_mono (own_mono hown hs4) hbel.size)
  have HB := Lib.hid (below_of_grown hbel hb (grownBy_trans hG4 hg5))
  have Hi := Lib.hid hi
  clear hrd hrd2 hrd3 hrd4 hrd5 hg2 hg3 hg4 hg5 hG3 hG4 hown hbel hi
  go_wp2
  exact bodyPost_ret (v := .tuple #[.int .i64 p, .int .i64 (y + z / 39 * 4), .slice (some ⟨g, 0, none⟩) ms.length cap]) (by simp [results, Try.results20, go_sem]) rfl ⟨p, y + z / 39 * 4, g, cap, ms, hP1, hP4, by omega, by omega, rfl, Hown5.out, Hi.out, by omega, HB.out⟩
set_option maxRecDepth 100000 in
set_option maxHeartbeats 4000000 in
theorem drawAlikeOk (a : Value) (n : Nat) (w : World) (hr : RdBytes w w.heap.size a n) :
    Calls Try.prog 28 #[a] w (OutB w) := by
  go_enter Try.func28, Try.ntmps28
  go_wp2_with fail
  refine (l20Open _ _ _ hr).mono ?_
  rintro e w1 ⟨b, rfl, hb, hrd, hbel⟩
  have hbw := hrd.lt
  go_wp2_with fail
  refine (pick 4 b 0 _ hrd (by omega) (by omega) (by omega)).mono ?_
  rintro e w2 ⟨x, hx0, hx1, rfl, hrd2, hg2⟩
  have hP1 : 1 ≤ 1 + x := by omega
  have hP4 : 1 + x ≤ 4 := by omega
  clear hx0 hx1
  go_wp2_with fail
  generalize 1 + x = p at *
  refine (pick p b (0 + 1) _ hrd2 (by omega) (by omega) (by omega)).mono ?_
  rintro e w3 ⟨y, hy0, hy1, rfl, hrd3, hg3⟩
  have hG3 := grownBy_trans hg2 hg3
  have hs3 := hG3.size
  go_wp2_with fail
  refine (l20Term p 12 b (0 + 1 + 1) _ hrd3 hP1 hP4 (by omega) (by omega)).mono ?_
  rintro e w4 ⟨g, n, cap, ms, rfl, rfl, hown, hi, hn, hrd4, hg4⟩
  have hG4 := grownBy_trans hG3 hg4
  have hown4 := own_mono hown hs3
  have Hi := Lib.hid hi
  have hs4 := hg4.size
  go_wp2_with fail
  refine (specTrickTerm p y ms (I64_small (by omega) (by omega)) (by omega) _ _ _ (RdMarks.of_own hown4 hi) (Nat.le_refl _)).mono ?_
  rintro e w5 ⟨v5, rfl, ho5, hb5⟩
  have hown5 := own_below hown4 hb5
  have hrd5 : Rd w5 b (0 + 1 + 1 + 100) := hrd4.kept fun k hk => hb5.block k (by omega)
  have hG5 : w1.grownBy w5 (some b) := ⟨hb5.os.trans hG4.os, hb5.tape.trans hG4.tape, hb5.output.trans hG4.output, Nat.le_trans hG4.size hb5.size, fun i hi hne => (hb5.block i (Nat.lt_of_lt_of_le hi hG4.size)).trans (hG4.block i hi hne)⟩
  have hcl : claimOk p (y, ms) = true → 0 < (ctermV p (y, ms)).length ∧ (ctermV p (y, ms)).length ≤ 30 := fun h => by
    rw [ctermV_yes h, cterm_len2]; omega
  have hci : I64s (ctermV p (y, ms)) := I64s_ctermV7 hi
  obtain ⟨f5, c5, hv5⟩ := own_len ho5
  subst hv5
  generalize ctermV p (y, ms) = xs at *
  have Hx := Lib.hid (own_mono ho5 (Nat.le_trans hG4.size (Nat.le_refl _)))
  have Hcl := Lib.hid hcl
  have Hci := Lib.hid hci
  have Hown5 := Lib.hid hown5
  have hs5 := hb5.size
  generalize hcc : claimOk p (y, ms) = can at *
  clear hrd hrd2 hrd3 hrd4 hg2 hg3 hg4 hG3 hown hown4 hi hcl hci ho5 hb5 hcc
  cases can with
  | false =>
    go_wp2_with fail
    refine (pick 40 b _ _ hrd5 (by omega) (by omega) (by omega)).mono ?_
    rintro e w6 ⟨z, hz0, hz1, rfl, hrd6, hg6⟩
    have Hown6 := Lib.hid (own_mono (own_row Hown5.out hg6 (by omega)) hbel.size)
    have HB := Lib.hid (below_of_grown hbel hb (grownBy_trans hG5 hg6))
    clear hrd5 hrd6 hg6 hG5 hG4 hbel
    go_wp2
    exact bodyPost_ret (v := .tuple #[.int .i64 p, .int .i64 (y + z / 39 * 4), .slice (some ⟨g, 0, none⟩) ms.length cap]) (by simp [results, Try.results28, go_sem]) rfl ⟨p, y + z / 39 * 4, g, cap, ms, hP1, hP4, by omega, by omega, rfl, Hown6.out, Hi.out, by omega, HB.out⟩
  | true =>
    go_wp2_with fail
    refine (pick 2 b _ _ hrd5 (by omega) (by omega) (by omega)).mono ?_
    rintro e w6 ⟨q, hq0, hq1, rfl, hrd6, hg6⟩
    have hG6 := grownBy_trans hG5 hg6
    by_cases hqz : q = 0
    · subst hqz
      obtain ⟨hx0, hx30⟩ := Hcl.out (by trivial)
      obtain ⟨g5, cc, hf⟩ := ownsRow_form Hx.out hx0
      cases hf
      have HX6 := Lib.hid (own_mono (own_row Hx.out hg6 (by omega)) hbel.size)
      have HB := Lib.hid (below_of_grown hbel hb hG6)
      clear hrd5 hrd6 hg6 hG5 hG4 hbel
      go_wp2
      exact bodyPost_ret (v := .tuple #[.int .i64 p, .int .i64 y, .slice (some ⟨g5, 0, none⟩) xs.length c5]) (by simp [results, Try.results28, go_sem]) rfl ⟨p, y, g5, c5, xs, hP1, hP4, by omega, by omega, rfl, HX6.out, Hci.out, hx30, HB.out⟩
    · have hown6 := own_row Hown5.out hg6 (by omega)
      go_wp2_with fail
      refine (pick 40 b _ _ hrd6 (by omega) (by omega) (by omega)).mono ?_
      rintro e w7 ⟨z, hz0, hz1, rfl, hrd7, hg7⟩
      have Hown7 := Lib.hid (own_mono (own_row hown6 hg7 (by omega)) hbel.size)
      have HB := Lib.hid (below_of_grown hbel hb (grownBy_trans hG6 hg7))
      clear hrd5 hrd6 hrd7 hg6 hg7 hG6 hG5 hG4 hbel hown6
      go_wp2
      exact bodyPost_ret (v := .tuple #[.int .i64 p, .int .i64 (y + z / 39 * 4), .slice (some ⟨g, 0, none⟩) ms.length cap]) (by simp [results, Try.results28, go_sem]) rfl ⟨p, y + z / 39 * 4, g, cap, ms, hP1, hP4, by omega, by omega, rfl, Hown7.out, Hi.out, by omega, HB.out⟩
theorem ints_snoc7 (zs : List Int) (z : Int) : ints (zs ++ [z]) = ints zs ++ [.int .i64 z] := by simp [ints]
set_option maxRecDepth 100000 in
set_option maxHeartbeats 4000000 in
theorem drawChainTerm (a : Value) (n : Nat) (w : World) (hr : RdBytes w w.heap.size a n) :
    Calls Try.prog 25 #[a] w (OutLB w) := by
  obtain ⟨i0, hi, hz0, hz1, hz2⟩ := info_parts Try.info3
  have Hi := Lib.hid hi; clear hi
  have Hz0 := Lib.hid hz0; clear hz0
  have Hz1 := Lib.hid hz1; clear hz1
  have Hz2 := Lib.hid hz2; clear hz2
  go_enter Try.func25, Try.ntmps25
  go_wp2_with fail
  refine (l20Open _ _ _ hr).mono ?_
  rintro e w1 ⟨b, rfl, hb, hrd, hbel⟩
  have hbw := hrd.lt
  go_wp2_with fail
  refine (pick 4 b 0 _ hrd (by omega) (by omega) (by omega)).mono ?_
  rintro e w2 ⟨x, hx0, hx1, rfl, hrd2, hg2⟩
  clear hrd
  have hG2 : w1.grownBy (w2.alloc (.cells #[] 3)) (some b) := only_alloc hg2 _
  have hown2 : (w2.alloc (.cells #[] 3)).ownsRow w1.heap.size 3 1 (.slice (some ⟨w2.heap.size, 0, none⟩) 0 0) 0 (ints []) := World.ownsRow_made _ _ 0 hg2.size (Nat.zero_le _) rfl
  have hrd2' := hrd2.alloc (.cells #[] 3)
  have hP1 : 1 ≤ 1 + x := by omega
  have hP4 : 1 + x ≤ 4 := by omega
  clear hg2 hrd2 hx0 hx1
  go_wp2_with fail
  generalize 1 + x = P at *
  refine (pick 5 b _ _ hrd2' (by omega) (by omega) (by omega)).mono ?_
  rintro e w3 ⟨y, hy0, hy1, rfl, hrd3, hg3⟩
  obtain ⟨Y, rfl⟩ := Int.eq_ofNat_of_zero_le hy0
  have hG3 := grownBy_trans hG2 hg3
  have hown3 := own_row hown2 hg3 hbw
  clear hrd2' hG2 hg3 hown2
  go_wp2_with fail
  go_loopw [7, 8] (fun v i wr => ∃ (k : Nat) (zs : List Int) (g cap : Nat), k + zs.length ≤ 6 ∧ i = .int .i64 k ∧ v = .slice (some ⟨g, 0, none⟩) zs.length cap ∧ wr.ownsRow w1.heap.size 3 1 v zs.length (ints zs) ∧ Hid (∀ z ∈ zs, 0 ≤ z ∧ z ≤ 64) ∧ Rd wr b (2 + 2 * zs.length) ∧ w1.grownBy wr (some b))
    (fun _ i _ => (intOf i).toNat)
  case atStart => exact ⟨Y, [], _, _, by simp; omega, rfl, rfl, hown3, by intro z hz; simp at hz, hrd3, hG3⟩
  case round =>
    clear hown3 hrd3 hG3
    obtain ⟨k, zs, g, cap, hk, rfl, rfl, hown, hall, hrk, hGk⟩ := hrel
    by_cases hlt : 0 < k
    · obtain ⟨k, rfl⟩ : ∃ j, k = j + 1 := ⟨k - 1, by omega⟩
      go_wp2_with fail
      refine (pick P b _ _ hrk (by omega) (by omega) (by omega)).mono ?_
      rintro e w4 ⟨z, hz0, hz1, rfl, hrd4, hg4⟩
      have hown4 := own_row hown hg4 hbw
      have hG4 := grownBy_trans hGk hg4
      clear hown hGk hg4 hrk
      go_wp2_with fail
      refine (pick 90 b _ _ hrd4 (by omega) (by omega) (by omega)).mono ?_
      rintro e w5 ⟨u, hu0, hu1, rfl, hrd5, hg5⟩
      have hown5 := own_row hown4 hg5 hbw
      have hG5 := grownBy_trans hG4 hg5
      have hs5 := hG5.size
      have Hzu : Hid (0 ≤ z + u / 89 * 4 ∧ z + u / 89 * 4 ≤ 64) := by unfold Hid; omega
      clear hg5 hG4 hown4 hrd4
      generalize hL : zs.length = L at *
      have HL := Lib.hid hL; clear hL
      go_wp2_with (first
        | (at_builtin; refine wpList_append_own _ rfl _ _ 40 rfl w1.heap.size 3 i0 (.int .i64 0) 1 8 Try.underlying40 Hi.out Hz0.out Hz1.out Hz2.out rfl (by decide) _ _ _ rfl (hown5.alloc _) ⟨w5.heap.size, 0, none⟩ 1 1 [.int .i64 (z + u / 89 * 4)] rfl rfl (news1 _ _ rfl _ _) (by simp [Value.oneCell']) (by unfold maxLen; omega) (by omega) (by simp; omega) ?_
           go_must (intro v6 w6 hown6 hgr6 _
                    obtain ⟨g6, c6, rfl⟩ := ownsRow_form hown6 (by omega)
                    have hG6 := grown_own (only_alloc hG5 (.cells #[.int .i64 (z + u / 89 * 4)] 3)) hgr6 (fun k hk => (hown5.lt k hk).1)
                    have hrd6 := (hrd5.alloc (.cells #[.int .i64 (z + u / 89 * 4)] 3)).grown hgr6 (own_row_block hown5 hbw)
                    have HG6 := Lib.hid hG6
                    have Hrd6 := Lib.hid hrd6
                    have Hown6 := Lib.hid hown6
                    clear hG6 hrd6 hown6 hgr6))
        | fail)
      go_roundw
      case rel => exact ⟨k, zs ++ [z + u / 89 * 4], g6, c6, by simp [HL.out]; omega, by go_num, by simp [HL.out], by rw [ints_snoc7]; simpa [HL.out] using Hown6.out, by
        intro q hq
        rcases List.mem_append.1 hq with hq | hq
        · exact hall.out q hq
        · simp at hq; subst hq; exact Hzu.out, Hrd6.out.mono (by simp [HL.out]; omega), HG6.out⟩
      case measure => simp [intOf]
    · obtain rfl : k = 0 := by omega
      have hsk := hGk.size
      go_wp2_with fail
      refine (l20Term P 12 b _ _ hrk hP1 hP4 (by omega) (by omega)).mono ?_
      rintro e w4 ⟨g4, n4, c4, ms, rfl, rfl, howm, him, hnm, hrd4, hg4⟩
      have hown4 := own_row hown hg4 hbw
      have HB := Lib.hid (below_of_grown hbel hb (grownBy_trans hGk hg4))
      have Hown4 := Lib.hid (own_mono hown4 hbel.size)
      have Howm := Lib.hid (own_mono (own_mono howm hsk) hbel.size)
      have Him := Lib.hid him
      clear hown hGk hg4 hrk hown4 hrd4 hbel howm him
      have hz6 : zs.length ≤ 6 := by omega
      go_wp2
      exact bodyPost_ret (v := .tuple #[.int .i64 P, .slice (some ⟨g, 0, none⟩) zs.length cap, .slice (some ⟨g4, 0, none⟩) ms.length c4]) (by simp [results, Try.results25, go_sem]) rfl ⟨P, g, cap, g4, c4, zs, ms, hP1, hP4, rfl, Hown4.out, hz6, hall.out, Howm.out, Him.out, hnm, HB.out⟩
end Go.Proofs.Ytemldnjpcnogpaa

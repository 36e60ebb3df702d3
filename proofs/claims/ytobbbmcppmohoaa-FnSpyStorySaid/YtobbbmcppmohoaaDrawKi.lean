/- The reference model's draws of kinds. -/
import Derived.Test.YtobbbmcppmohoaaDrawS
import Derived.Test.YtobbbmcppmohoaaDrawP
import Derived.Test.YtobbbmcppmohoaaHelpers
import Derived.Deep.RegionHeld3
import Derived.OwnWalk
namespace Go.Proofs.Ytobbbmcppmohoaa
open Go.RowKit Go.Joins
def KSmall (zs : List Int) : Prop := ∀ z ∈ zs, 0 ≤ z ∧ z ≤ 3
theorem KSmall.snoc {zs : List Int} {z : Int} (h : KSmall zs) (h0 : 0 ≤ z) (h3 : z ≤ 3) : KSmall (zs ++ [z]) := by
  intro y hy
  rcases List.mem_append.1 hy with hy | hy
  · exact h y hy
  · simp at hy; subst hy; exact ⟨h0, h3⟩
theorem ints_snoc9 (zs : List Int) (z : Int) : ints (zs ++ [z]) = ints zs ++ [.int .i64 z] := by simp [ints]
/-- what a draw of a row of kinds hands back -/
def DrewK (b c : Nat) (w : World) (e : Ending) (w' : World) : Prop :=
  ∃ (g cap : Nat) (zs : List Int), e = .returned (.slice (some ⟨g, 0, none⟩) zs.length cap) ∧ w'.ownsRow w.heap.size 3 1 (.slice (some ⟨g, 0, none⟩) zs.length cap) zs.length (ints zs) ∧ zs.length ≤ 9 ∧ KSmall zs ∧ Rd w' b c ∧ w.grownBy w' (some b)
def OutKi (w : World) (e : Ending) (w' : World) : Prop :=
  ∃ (g cap : Nat) (zs : List Int), e = .returned (.slice (some ⟨g, 0, none⟩) zs.length cap) ∧ w'.ownsRow w.heap.size 3 1 (.slice (some ⟨g, 0, none⟩) zs.length cap) zs.length (ints zs) ∧ zs.length ≤ 9 ∧ KSmall zs ∧ Below w.heap.size w w'
def OutKC (w : World) (e : Ending) (w' : World) : Prop :=
  ∃ (gz cz : Nat) (zs : List Int) (k : Int) (g cap : Nat) (ms : List (Int × Int)), e = .returned (.tuple #[.slice (some ⟨gz, 0, none⟩) zs.length cz, .agg #[.int .i64 k, .slice (some ⟨g, 0, none⟩) ms.length cap]]) ∧ w'.ownsRow w.heap.size 3 1 (.slice (some ⟨gz, 0, none⟩) zs.length cz) zs.length (ints zs) ∧ zs.length ≤ 9 ∧ KSmall zs ∧
    w'.ownsRow w.heap.size TM 2 (.slice (some ⟨g, 0, none⟩) ms.length cap) ms.length (mcells ms) ∧ I64s ms ∧ ms.length ≤ 20 ∧ -1 ≤ k ∧ k ≤ 4 ∧ Below w.heap.size w w'
def OutKS (w : World) (e : Ending) (w' : World) : Prop :=
  ∃ (gz cz : Nat) (zs : List Int) (v : Value) (qs : List QC), e = .returned (.tuple #[.slice (some ⟨gz, 0, none⟩) zs.length cz, v]) ∧ w'.ownsRow w.heap.size 3 1 (.slice (some ⟨gz, 0, none⟩) zs.length cz) zs.length (ints zs) ∧ zs.length ≤ 9 ∧ KSmall zs ∧ StoryIn w' w.heap.size w.heap.size v qs ∧ QSmall qs ∧ qs.length ≤ 7 ∧ Below w.heap.size w w'
def OutSX (w : World) (e : Ending) (w' : World) : Prop :=
  ∃ (p : Int) (v : Value) (x : Int) (qs : List QC), 1 ≤ p ∧ p ≤ 4 ∧ e = .returned (.tuple #[.int .i64 p, v, .int .i64 x]) ∧ StoryIn w' w.heap.size w.heap.size v qs ∧ QSmall qs ∧ qs.length ≤ 7 ∧ 0 ≤ x ∧ x ≤ 20 ∧ Below w.heap.size w w'
set_option maxRecDepth 100000 in
set_option maxHeartbeats 8000000 in
theorem l20Kinds (p : Int) (n b c : Nat) (w : World) (hrd : Rd w b c) (hp : p ≤ 8) (hn : n ≤ 1099511627776) (hc : c ≤ 1000000) :
    Calls Try.prog 55 #[.pointer (some ⟨b, 0, none⟩), .int .i64 p, .int .i64 n] w (DrewK b (c + 20) w) := by
  obtain ⟨i0, hi, hz0, hz1, hz2⟩ := info_parts Try.info3
  have Hi := Lib.hid hi; clear hi
  have Hz0 := Lib.hid hz0; clear hz0
  have Hz1 := Lib.hid hz1; clear hz1
  have Hz2 := Lib.hid hz2; clear hz2
  have hbw := hrd.lt
  obtain ⟨wo, hwo⟩ : ∃ wo : World, wo = w := ⟨_, rfl⟩
  have hG0 : w.grownBy (w.alloc (.cells #[] 3)) (some b) := only_alloc (World.grownBy.refl _ _) _
  have hown0 : (w.alloc (.cells #[] 3)).ownsRow w.heap.size 3 1 (.slice (some ⟨w.heap.size, 0, none⟩) 0 0) 0 (ints []) := World.ownsRow_made _ _ 0 (Nat.le_refl _) (Nat.zero_le _) rfl
  have hrd0 := hrd.alloc (.cells #[] 3)
  go_enter Try.func55, Try.ntmps55
  go_wp2
  go_loopw [7, 8] (fun v i wr => ∃ (k : Nat) (zs : List Int) (g cap : Nat), zs.length = k ∧ k ≤ 8 ∧ i = .int .i64 k ∧ v = .slice (some ⟨g, 0, none⟩) zs.length cap ∧ wr.ownsRow w.heap.size 3 1 v zs.length (ints zs) ∧ Hid (KSmall zs) ∧ Rd wr b (c + k) ∧ w.grownBy wr (some b)) (fun _ i _ => (p - intOf i).toNat)
  case atStart => exact ⟨0, [], _, _, rfl, by omega, rfl, rfl, hown0, fun z hz => by simp at hz, hrd0, hG0⟩
  case round =>
    clear hown0 hrd0 hG0
    obtain ⟨k, zs, g, cap, hk, hk8, rfl, rfl, hown, hall, hrk, hGk⟩ := hrel
    subst hk
    have hsk := hGk.size
    by_cases hlt : (zs.length : Int) < p
    · have hk7 : zs.length ≤ 7 := by omega
      have hlit := fun j u h => World.news_of_block (cs := #[.int .i64 0, .int .i64 1, .int .i64 0, .int .i64 1, .int .i64 2]) (t := 3) (fr := (0, 0)) (heap_alloc_new wr _) j u h
      have hz5 : (wr.alloc (.cells #[.int .i64 0, .int .i64 1, .int .i64 0, .int .i64 1, .int .i64 2] 3)).heap.size = wr.heap.size + 1 := by simp
      have hown5 := hown.alloc (.cells #[.int .i64 0, .int .i64 1, .int .i64 0, .int .i64 1, .int .i64 2] 3)
      have hrd5 := hrk.alloc (.cells #[.int .i64 0, .int .i64 1, .int .i64 0, .int .i64 1, .int .i64 2] 3)
      have hG5 := only_alloc hGk (.cells #[.int .i64 0, .int .i64 1, .int .i64 0, .int .i64 1, .int .i64 2] 3)
      have Hlit := Lib.hid hlit
      have Hz5 := Lib.hid hz5
      have Hown5 := Lib.hid hown5
      have Hrd5 := Lib.hid hrd5
      have HG5 := Lib.hid hG5
      clear hlit hown hrk hGk hz5 hown5 hrd5 hG5
      go_wp2_with fail
      refine (pick 5 b _ _ Hrd5.out (by omega) (by omega) (by omega)).mono ?_
      rintro e w6 ⟨x, hx0, hx5, rfl, hrd6, hg6⟩
      obtain ⟨X, rfl⟩ := Int.eq_ofNat_of_zero_le hx0
      have hX5 : X < 5 := by omega
      have hz5 := Hz5.out
      have hown5 := Hown5.out
      have hG5 := HG5.out
      generalize hw5 : wr.alloc (.cells #[.int .i64 0, .int .i64 1, .int .i64 0, .int .i64 1, .int .i64 2] 3) = w5 at *
      have hbe : ¬ b = wr.heap.size := by omega
      obtain ⟨q, hq0, hq3, hcx⟩ : ∃ q : Int, 0 ≤ q ∧ q ≤ 3 ∧ w6.cell? ⟨wr.heap.size, X, none⟩ = some (.int .i64 q) := by
        have hf : ∀ j, w6.cell? ⟨wr.heap.size, j, none⟩ = w5.cell? ⟨wr.heap.size, j, none⟩ := fun j => hg6.cell_far ⟨wr.heap.size, j, none⟩ (by show wr.heap.size < _; omega) (by simp; omega)
        have h5 : X = 0 ∨ X = 1 ∨ X = 2 ∨ X = 3 ∨ X = 4 := by omega
        rw [hf]
        rcases h5 with rfl | rfl | rfl | rfl | rfl
        · exact ⟨0, by omega, by omega, by simpa [Addr.add] using Hlit.out 0 _ rfl⟩
        · exact ⟨1, by omega, by omega, by simpa [Addr.add] using Hlit.out 1 _ rfl⟩
        · exact ⟨0, by omega, by omega, by simpa [Addr.add] using Hlit.out 2 _ rfl⟩
        · exact ⟨1, by omega, by omega, by simpa [Addr.add] using Hlit.out 3 _ rfl⟩
        · exact ⟨2, by omega, by omega, by simpa [Addr.add] using Hlit.out 4 _ rfl⟩
      have hown6 := own_row hown5 hg6 hbw
      have hG6 := grownBy_trans hG5 hg6
      have hs6 := hG6.size
      generalize hLL : zs.length = L at *
      have HL := Lib.hid hLL
      have Hsn := Lib.hid (ints_snoc9 zs q)
      have Hsm := Lib.hid (KSmall.snoc hall.out hq0 hq3)
      clear hown5 hG5 hg6 hLL Hlit hx0 hx5 hw5 Hz5 Hown5 Hrd5 HG5 hz5
      go_wp2_with (first
        | (at_builtin; refine wpList_append_own _ rfl _ _ 23 rfl w.heap.size 3 i0 (.int .i64 0) 1 8 Try.underlying23 Hi.out Hz0.out Hz1.out Hz2.out rfl (by decide) _ _ _ rfl (hown6.alloc _) ⟨w6.heap.size, 0, none⟩ 1 1 [.int .i64 q] rfl rfl (news1 _ _ rfl _ _) (by simp [Value.oneCell']) (by unfold maxLen; omega) (by omega) (by simp; omega) ?_
           go_must (intro v7 w7 hown7 hgr7 _
                    obtain ⟨g7, c7, rfl⟩ := ownsRow_form hown7 (by omega)
                    have hG7 := grown_own (only_alloc hG6 (.cells #[.int .i64 q] 3)) hgr7 (fun k hk => (hown6.lt k hk).1)
                    have hrd7 := (hrd6.alloc (.cells #[.int .i64 q] 3)).grown hgr7 (own_row_block hown6 hbw)
                    have HG7 := Lib.hid hG7
                    have Hrd7 := Lib.hid hrd7
                    have Hown7 := Lib.hid hown7
                    clear hG7 hrd7 hown7 hgr7))
        | fail)
      go_roundw
      case rel => exact ⟨L + 1, zs ++ [q], g7, c7, by simp [HL.out], by omega, by go_num, by simp [HL.out], by rw [Hsn.out]; simpa [HL.out] using Hown7.out, Hsm.out, Hrd7.out.mono (by omega), HG7.out⟩
      case measure => have hh := HL.out; simp only [intOf]; omega
    · have hown' := hown
      go_wp2_with fail
      refine (odd n b _ _ hrk hn (by omega)).mono ?_
      rintro e w4 ⟨o, rfl, hrd4, hg4⟩
      have hown4 := own_row hown hg4 hbw
      have hG4 := grownBy_trans hGk hg4
      have hs4 := hG4.size
      clear hown hown' hrk hGk hg4
      cases o with
      | false =>
        have Hrd4 := Lib.hid hrd4
        have HG4 := Lib.hid hG4
        have Hown4 := Lib.hid hown4
        clear hrd4 hG4 hown4
        go_wp2
        go_ret
        exact ⟨g, cap, zs, rfl, Hown4.out, by omega, hall.out, Hrd4.out.mono (by omega), HG4.out⟩
      | true =>
        go_wp2_with fail
        refine (pick 2 b _ _ hrd4 (by omega) (by omega) (by omega)).mono ?_
        rintro e w5 ⟨x, hx0, hx2, rfl, hrd5, hg5⟩
        have hown5 := own_row hown4 hg5 hbw
        have hG5 := grownBy_trans hG4 hg5
        have hs5 := hG5.size
        clear hrd4 hG4 hown4 hg5
        by_cases hx : x = 0
        · subst hx
          have Hrd5 := Lib.hid hrd5
          have HG5 := Lib.hid hG5
          clear hrd5 hG5 hown5
          go_wp2
          go_ret
          exact ⟨_, _, [], rfl, World.ownsRow_made _ _ 0 HG5.out.size (Nat.zero_le _) rfl, by simp, fun z hz => by simp at hz, (Hrd5.out.alloc _).mono (by omega), only_alloc HG5.out _⟩
        · have hx1 : (x == 0) = false := by rw [beq_eq_false_iff_ne]; exact hx
          have hk8' := hk8
          generalize hLL : zs.length = L at *
          have HL := Lib.hid hLL
          have Hsn := Lib.hid (ints_snoc9 zs 3)
          have Hsm := Lib.hid (KSmall.snoc hall.out (show (0 : Int) ≤ 3 by omega) (by omega))
          clear hLL hx hx0 hx2
          go_wp2_with (first
            | (at_builtin; refine wpList_append_own _ rfl _ _ 23 rfl w.heap.size 3 i0 (.int .i64 0) 1 8 Try.underlying23 Hi.out Hz0.out Hz1.out Hz2.out rfl (by decide) _ _ _ rfl (hown5.alloc _) ⟨w5.heap.size, 0, none⟩ 1 1 [.int .i64 3] rfl rfl (news1 _ _ rfl _ _) (by simp [Value.oneCell']) (by unfold maxLen; omega) (by omega) (by simp; omega) ?_
               go_must (intro v7 w7 hown7 hgr7 _
                        obtain ⟨g7, c7, rfl⟩ := ownsRow_form hown7 (by omega)
                        have hG7 := grown_own (only_alloc hG5 (.cells #[.int .i64 3] 3)) hgr7 (fun k hk => (hown5.lt k hk).1)
                        have hrd7 := (hrd5.alloc (.cells #[.int .i64 3] 3)).grown hgr7 (own_row_block hown5 hbw)
                        have HG7 := Lib.hid hG7
                        have Hrd7 := Lib.hid hrd7
                        have Hown7 := Lib.hid hown7
                        clear hG7 hrd7 hown7 hgr7))
            | fail)
          go_ret
          exact ⟨g7, c7, zs ++ [3], by simp [HL.out], by rw [Hsn.out]; simpa [HL.out] using Hown7.out, by simp [HL.out]; omega, Hsm.out, Hrd7.out.mono (by omega), HG7.out⟩
set_option maxRecDepth 100000 in
set_option maxHeartbeats 2000000 in
theorem drawKindsOk (a : Value) (n : Nat) (w : World) (hr : RdBytes w w.heap.size a n) :
    Calls Try.prog 16 #[a] w (OutKi w) := by
  go_enter Try.func16, Try.ntmps16
  go_wp2_with fail
  refine (l20Open _ _ _ hr).mono ?_
  rintro e w1 ⟨b, rfl, hb, hrd, hbel⟩
  have hbw := hrd.lt
  go_wp2_with fail
  refine (pick 5 b 0 _ hrd (by omega) (by omega) (by omega)).mono ?_
  rintro e w2 ⟨x, hx0, hx1, rfl, hrd2, hg2⟩
  have hP1 : 1 ≤ 1 + x := by omega
  have hP8 : 1 + x ≤ 8 := by omega
  clear hx0 hx1 hrd
  go_wp2_with fail
  generalize 1 + x = p at *
  refine (l20Kinds p 3 b _ _ hrd2 hP8 (by omega) (by omega)).mono ?_
  rintro e w3 ⟨g, cap, zs, rfl, hown, hl, hks, hrd3, hg3⟩
  have Hown := Lib.hid (own_mono (own_mono hown hg2.size) hbel.size)
  have HB := Lib.hid (below_of_grown hbel hb (grownBy_trans hg2 hg3))
  clear hrd2 hrd3 hg2 hg3 hown hbel
  go_wp2
  go_ret
  exact ⟨g, cap, zs, rfl, Hown.out, hl, hks, HB.out⟩
set_option maxRecDepth 100000 in
set_option maxHeartbeats 2000000 in
theorem drawWorldOfKinds (a : Value) (n : Nat) (w : World) (hr : RdBytes w w.heap.size a n) :
    Calls Try.prog 19 #[a] w (OutKi w) := by
  go_enter Try.func19, Try.ntmps19
  go_wp2_with fail
  refine (l20Open _ _ _ hr).mono ?_
  rintro e w1 ⟨b, rfl, hb, hrd, hbel⟩
  have hbw := hrd.lt
  go_wp2_with fail
  refine (pick 4 b 0 _ hrd (by omega) (by omega) (by omega)).mono ?_
  rintro e w2 ⟨x, hx0, hx1, rfl, hrd2, hg2⟩
  have hP1 : 1 ≤ 1 + x := by omega
  have hP8 : 1 + x ≤ 8 := by omega
  clear hx0 hx1 hrd
  go_wp2_with fail
  generalize 1 + x = p at *
  refine (l20Kinds p 9 b _ _ hrd2 hP8 (by omega) (by omega)).mono ?_
  rintro e w3 ⟨g, cap, zs, rfl, hown, hl, hks, hrd3, hg3⟩
  have Hown := Lib.hid (own_mono (own_mono hown hg2.size) hbel.size)
  have HB := Lib.hid (below_of_grown hbel hb (grownBy_trans hg2 hg3))
  clear hrd2 hrd3 hg2 hg3 hown hbel
  go_wp2
  go_ret
  exact ⟨g, cap, zs, rfl, Hown.out, hl, hks, HB.out⟩
set_option maxRecDepth 100000 in
set_option maxHeartbeats 2000000 in
theorem drawSpyStory (a : Value) (n : Nat) (w : World) (hr : RdBytes w w.heap.size a n) :
    Calls Try.prog 31 #[a] w (OutKS w) := by
  go_enter Try.func31, Try.ntmps31
  go_wp2_with fail
  refine (l20Open _ _ _ hr).mono ?_
  rintro e w1 ⟨b, rfl, hb, hrd, hbel⟩
  have hbw := hrd.lt
  go_wp2_with fail
  refine (l20Story 14 b 0 _ hrd (by omega) (by omega)).mono ?_
  rintro e w2 ⟨p, v, qs, hp1, hp4, rfl, hst, hqs, hq7, hrd2, hg2⟩
  go_wp2_with fail
  refine (l20Kinds p 14 b _ _ hrd2 (by omega) (by omega) (by omega)).mono ?_
  rintro e w3 ⟨g, cap, zs, rfl, hown, hl, hks, hrd3, hg3⟩
  have Hst := Lib.hid ((hst.row hg3 hbw hbw).mono hbel.size hbel.size)
  have Hown := Lib.hid (own_mono (own_mono hown hg2.size) hbel.size)
  have HB := Lib.hid (below_of_grown hbel hb (grownBy_trans hg2 hg3))
  clear hrd hrd2 hrd3 hg2 hg3 hown hbel hst
  go_wp2
  go_ret2
  exact ⟨g, cap, zs, v, qs, rfl, Hown.out, hl, hks, Hst.out, hqs, hq7, HB.out⟩
set_option maxHeartbeats 1000000 in
theorem drawFewestSpies (a : Value) (n : Nat) (w : World) (hr : RdBytes w w.heap.size a n) :
    Calls Try.prog 38 #[a] w (OutS w) := by
  go_enter Try.func38, Try.ntmps38
  go_wp2_with fail
  refine (l20Open _ _ _ hr).mono ?_
  rintro e w1 ⟨b, rfl, hb, hrd, hbel⟩
  go_wp2_with fail
  refine (l20Story 12 b 0 _ hrd (by omega) (by omega)).mono ?_
  rintro e w2 ⟨p, v, qs, hp1, hp4, rfl, hst, hqs, hq7, hrd2, hg2⟩
  have HB := Lib.hid (below_of_grown hbel hb hg2)
  have Hst := Lib.hid (hst.mono hbel.size hbel.size)
  clear hrd hg2 hbel hst hrd2
  go_wp2
  go_ret2
  exact ⟨p, v, qs, by omega, by omega, rfl, Hst.out, hqs, hq7, HB.out⟩
set_option maxRecDepth 100000 in
set_option maxHeartbeats 2000000 in
theorem drawSpyRows (a : Value) (n : Nat) (w : World) (hr : RdBytes w w.heap.size a n) :
    Calls Try.prog 43 #[a] w (OutSX w) := by
  go_enter Try.func43, Try.ntmps43
  go_wp2_with fail
  refine (l20Open _ _ _ hr).mono ?_
  rintro e w1 ⟨b, rfl, hb, hrd, hbel⟩
  have hbw := hrd.lt
  go_wp2_with fail
  refine (l20Story 12 b 0 _ hrd (by omega) (by omega)).mono ?_
  rintro e w2 ⟨p, v, qs, hp1, hp4, rfl, hst, hqs, hq7, hrd2, hg2⟩
  have hpw : IntKind.i64.wrap (p + 1) = p + 1 := IntWalk.i64_in _ (by omega)
  go_wp2_with fail
  refine (pick (p + 1) b _ _ hrd2 (by omega) (by omega) (by omega)).mono ?_
  rintro e w3 ⟨y, hy0, hy1, rfl, hrd3, hg3⟩
  have hst3 := hst.row hg3 hbw hbw
  have hg13 := grownBy_trans hg2 hg3
  clear hst hg2 hg3 hrd2
  go_wp2_with fail
  refine (pick 40 b _ _ hrd3 (by omega) (by omega) (by omega)).mono ?_
  rintro e w4 ⟨z, hz0, hz1, rfl, hrd4, hg4⟩
  have hst4 := hst3.row hg4 hbw hbw
  have HB := Lib.hid (below_of_grown hbel hb (grownBy_trans hg13 hg4))
  have Hst := Lib.hid (hst4.mono hbel.size hbel.size)
  clear hrd hg4 hbel hst3 hst4 hrd3 hrd4 hg13 hpw
  go_wp2
  exact bodyPost_ret (v := .tuple #[.int .i64 p, v, .int .i64 (y + z / 39 * 5)]) (by simp [results, Try.results43, go_sem]) rfl ⟨p, v, y + z / 39 * 5, qs, hp1, hp4, rfl, Hst.out, hqs, hq7, by omega, by omega, HB.out⟩
set_option maxRecDepth 100000 in
set_option maxHeartbeats 4000000 in
theorem drawSpySays (a : Value) (n : Nat) (w : World) (hr : RdBytes w w.heap.size a n) :
    Calls Try.prog 25 #[a] w (OutKC w) := by
  go_enter Try.func25, Try.ntmps25
  go_upto_region 1 with fail
  obtain ⟨w1, hw1, hx1, hbw1, hsz⟩ := Box.new w (.int .i64 0) (.slice none 0 0) TC
  have Hr1 := Lib.hid (hr.up hbw1)
  rw [← hw1]
  clear hw1 hr
  go_wp2_with fail
  refine (l20Open _ _ _ Hr1.out).mono ?_
  rintro e w2 ⟨b, rfl, hb, hrd2, hbel⟩
  have hx2 := hx1.below hbel
  have hB2 := hbw1.trans (hbel.mono hbw1.size)
  have hs2 := hB2.size
  have hbw2 := hrd2.lt
  clear hbel hx1 hbw1 Hr1
  go_wp2_with fail
  refine (l20Claimed 14 b 0 _ hrd2 (by omega) (by omega)).mono ?_
  rintro e w3 ⟨p, k, g, cap, ms, hp1, hp4, rfl, hown, hi, hn20, hk1, hk4, hrd3, hg3⟩
  have hx3 := hx2.grown hg3 (by simp; omega)
  have hsz2 := hx2.2.2.2.2
  have hB3 := below_row hB2 hg3 (fun q hq => by cases hq; omega)
  have hs3 := hg3.size
  clear hx2 hrd2 hg3
  go_upto_region 3 with fail
  obtain ⟨w4, hw4, hy4, hb4, hsz4⟩ := Box.new w3 (.int .i64 k) (.slice (some ⟨g, 0, none⟩) ms.length cap) TC
  have hrd4 : Rd w4 b (0 + 104) := by rw [hw4]; exact hrd3.alloc _
  have hown4 : w4.ownsRow w2.heap.size TM 2 (.slice (some ⟨g, 0, none⟩) ms.length cap) ms.length (mcells ms) := by rw [hw4]; exact hown.alloc _
  have hx4 := hx3.below hb4
  have hB4 := hB3.trans (hb4.mono hB3.size)
  rw [← hw4]
  clear hw4 hx3 hb4 hrd3 hown hB3
  have Hx4 := Lib.hid hx4
  have Hrd4 := Lib.hid hrd4
  have Hown4 := Lib.hid hown4
  have HB4 := Lib.hid hB4
  have Hy4 := Lib.hid hy4
  have hs4 := hB4.size
  obtain ⟨y1, y2, y3, y4, y5⟩ := hy4
  have hne1 : ¬ w3.heap.size = w.heap.size := by omega
  have hne2 : ¬ w.heap.size = w3.heap.size := by omega
  clear hx4 hrd4 hown4 hB4 hB2
  have Hkd : Hid (∀ W : World, Rd W b (0 + 104) → Calls Try.prog 55 #[.pointer (some ⟨b, 0, none⟩), .int .i64 p, .int .i64 14] W (DrewK b (0 + 104 + 20) W)) := fun W h => l20Kinds p 14 b (0 + 104) W h (by omega) (by omega) (by omega)
  go_region_held3 (fun w' => w'.cell? ⟨w3.heap.size, 0, none⟩ = some (.int .i64 k) ∧ w'.cell? ⟨w3.heap.size, 1, none⟩ = some (.slice (some ⟨g, 0, none⟩) ms.length cap))
    (first | (refine ⟨?_, ?_⟩ <;> first | go_keep | assumption) | assumption)
    (first
      | (go_at_call 55
         (with_reducible refine (Hkd.out _ ?_).mono ?_)
         · exact Hrd4.out
         rintro e w5 ⟨gz, cz, zs, rfl, hownz', hzl, hks, hrd5, hg5'⟩
         go_must (have hg5 : w4.grownBy w5 (some b) := by first | exact hg5' | exact grownBy_drew0 hg5' | exact grownBy_drewX hg5'
                  clear hg5'
                  have hx5 := Hx4.out.grown hg5 (by simp; omega)
                  have hy5 := Hy4.out.grown hg5 (by simp; omega)
                  have HB5 := Lib.hid (below_row HB4.out hg5 (fun q hq => by cases hq; omega))
                  have Hown5 := Lib.hid (own_row Hown4.out hg5 hbw2)
                  have HX5 := Lib.hid hx5
                  obtain ⟨x1, x2, x3, x4, x5⟩ := hx5
                  obtain ⟨u1, u2, u3, u4, u5⟩ := hy5
                  have Hownz := Lib.hid (show w5.ownsRow w4.heap.size 3 1 (.slice (some ⟨gz, 0, none⟩) zs.length cz) zs.length (ints zs) from hownz')
                  have hs5 := hg5.size
                  clear hg5 hrd5 hownz'))
      | fail)
  go_wp2
  obtain ⟨w6, e6, hx6, hg6⟩ := HX5.out.set (.int .i64 k) (.slice (some ⟨g, 0, none⟩) ms.length cap)
  rw [← e6]
  obtain ⟨z1, z2, _⟩ := hx6
  exact bodyPost_ret (by simp [results, Try.results25, go_sem, z1, z2]) rfl
    ⟨gz, cz, zs, k, g, cap, ms, rfl, own_mono (own_row Hownz.out hg6 (by omega)) hs4, hzl, hks, own_mono (own_row Hown5.out hg6 hsz2) hs2, hi, hn20, hk1, hk4, below_row HB5.out hg6 (fun q hq => by cases hq; exact Nat.le_refl _)⟩
end Go.Proofs.Ytobbbmcppmohoaa

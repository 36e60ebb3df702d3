/- Texts of a proof, merged: MajS, LawsA, DrawMj. -/
import Derived.Test.YtbnickgjnglblaaMerged4
import Derived.Test.YtbnickgjnglblaaMerged2
import Derived.Deep.RegionHeld3
import Derived.Deep.RegionWith
import Derived.Deep.Cut
import Derived.Test.YtbnickgjnglblaaDraw
import Derived.WalkKit
import Derived.ProofKit
/- Contracts of the reference's functions of asking for a teller. -/
namespace Go.Proofs.Ytbnickgjnglblaa
open Go.RowKit Go.Joins
theorem specL1In13 (n lo hi : Int) (b : Bool) (hb : Hid (b = decide (lo ≤ n ∧ n ≤ hi))) (w : World) :
    Calls Try.prog 23 #[.int .i64 n, .int .i64 lo, .int .i64 hi] w fun e w' => e = .returned (.bool b) ∧ w = w' := by
  rw [hb.out]; exact specIn n lo hi w
theorem shl_p {p N : Nat} (h4 : p ≤ 4) (hN : N = 2 ^ p) : wrap64 (2 ^ p) = (N : Int) := by
  have h : p = 0 ∨ p = 1 ∨ p = 2 ∨ p = 3 ∨ p = 4 := by omega
  rw [hN]
  rcases h with rfl | rfl | rfl | rfl | rfl <;> decide +kernel
theorem shl_pk {p N : Nat} (h4 : p ≤ 4) (hN : N = 2 ^ p) : IntKind.i64.wrap (2 ^ p) = (N : Int) := by
  have h : p = 0 ∨ p = 1 ∨ p = 2 ∨ p = 3 ∨ p = 4 := by omega
  rw [hN]
  rcases h with rfl | rfl | rfl | rfl | rfl <;> decide +kernel
theorem two_16 {p N : Nat} (h4 : p ≤ 4) (hN : N = 2 ^ p) : N ≤ 16 := by rw [hN]; exact (Nat.pow_le_pow_right (by decide) h4 : 2 ^ p ≤ 2 ^ 4)
def bitZ (X j : Nat) : Int := if X.testBit j then 1 else 0
theorem bit_tmod (X j : Nat) : ((X : Int) / 2 ^ j).tmod 2 = bitZ X j := tmod_two_val
theorem bitZ_yes {X j : Nat} (h : X.testBit j = true) : bitZ X j = 1 := by unfold bitZ; rw [h]; rfl
theorem bitZ_no {X j : Nat} (h : X.testBit j = false) : bitZ X j = 0 := by unfold bitZ; rw [h]; rfl
theorem majV_no {p : Int} (h : ¬ (1 ≤ p ∧ p ≤ 4)) : majV p = -1 := by unfold majV; rw [if_neg h]
theorem majV_yes {p : Nat} (h1 : 1 ≤ p) (h4 : p ≤ 4) : majV (p : Int) = (majN p : Int) := by unfold majV; rw [if_pos (by omega), Int.toNat_natCast]
/-- worlds below k in which all that is said of k holds -/
def telK (T k W : Nat) : Bool := (List.range W).all fun w => !T.testBit w || w.testBit k
theorem telK_succ (T k W : Nat) : telK T k (W + 1) = (telK T k W && (!T.testBit W || W.testBit k)) := by
  unfold telK; rw [List.range_succ, List.all_append]; simp
theorem telN_none {p T : Nat} (h : ∀ k, k < p → telB p T k = false) : telN p T = -1 := firstN_none h
theorem telN_at {p T k : Nat} (hk : k < p) (h1 : telB p T k = true) (h2 : ∀ j, j < k → telB p T j = false) : telN p T = (k : Int) := firstN_at hk h1 h2
theorem ktV_no {p t : Int} (h : tOk p t = false) : ktV p t = -1 := by unfold ktV; rw [h]; rfl
theorem ktV_zero (p : Int) : ktV p 0 = -1 := by unfold ktV; simp
theorem ktV_yes {p T : Nat} (h : tOk (p : Int) (T : Int) = true) (h0 : T ≠ 0) : ktV (p : Int) (T : Int) = telN p T := by
  unfold ktV
  rw [h, decide_eq_true (show (T : Int) ≠ 0 by omega), Int.toNat_natCast, Int.toNat_natCast]; rfl
theorem askV_no {p t i j : Int} {s : Bool} (h : tOk p t = false) : askV p t i j s = -1 := by unfold askV; rw [h]; rfl
theorem askV_i {p t i j : Int} {s : Bool} (h : ¬ (0 ≤ i ∧ i < p)) : askV p t i j s = -1 := by unfold askV; rw [decide_eq_false h]; simp
theorem askV_j {p t i j : Int} {s : Bool} (h : ¬ (0 ≤ j ∧ j < p)) : askV p t i j s = -1 := by unfold askV; rw [decide_eq_false h]; simp
theorem askV_yes {p T i j : Nat} {s : Bool} (h : tOk (p : Int) (T : Int) = true) (hi : i < p) (hj : j < p) : askV (p : Int) (T : Int) (i : Int) (j : Int) s = (askN p T i j s : Int) := by
  unfold askV
  rw [h, decide_eq_true (show (0 : Int) ≤ (i : Int) ∧ (i : Int) < (p : Int) by omega), decide_eq_true (show (0 : Int) ≤ (j : Int) ∧ (j : Int) < (p : Int) by omega)]
  simp
theorem leastV_no {p t : Int} (h : tOk p t = false) : leastV p t = -1 := by unfold leastV; rw [h]; rfl
theorem leastV_yes {p T : Nat} (h : tOk (p : Int) (T : Int) = true) : leastV (p : Int) (T : Int) = lv p p T := by unfold leastV; rw [h]; simp
theorem telN_low (p T : Nat) : -1 ≤ telN p T ∧ telN p T < (p : Int) ∨ p = 0 := by
  rcases firstN_spec (telB p T) p with ⟨h, _⟩ | ⟨d, hd, h, _⟩
  · by_cases hp : p = 0
    · exact .inr hp
    · left; unfold telN; omega
  · left; unfold telN; omega
theorem ask_small (p T i j : Nat) (s : Bool) (h4 : p ≤ 4) : askN p T i j s < 65536 :=
  Nat.lt_of_lt_of_le (ask_lt p T i j s) (by
    have : 2 ^ p ≤ 2 ^ 4 := Nat.pow_le_pow_right (by decide) h4
    exact Nat.pow_le_pow_right (by decide) this)
theorem good_no1 {p m T i j : Nat} (h : askN p T i j true = T) : ¬ Good p m T i j := fun g => g.1 h
theorem good_no2 {p m T i j : Nat} (h : askN p T i j false = T) : ¬ Good p m T i j := fun g => g.2.1 h
theorem good_no3 {p m T i j : Nat} (h : lv p m (askN p T i j true) < 0) : ¬ Good p m T i j := fun g => by have := g.2.2.1; omega
theorem good_no4 {p m T i j : Nat} (h : lv p m (askN p T i j false) < 0) : ¬ Good p m T i j := fun g => by have := g.2.2.2; omega
attribute [local irreducible] majN telB telN askN solB lv tabF heads telK firstN done0 costQ Good Best majV ktV askV leastV
set_option maxRecDepth 100000 in
set_option maxHeartbeats 2000000 in
theorem specMajority (p : Int) (w : World) :
    Calls Try.prog 9 #[.int .i64 p] w fun e w' => e = .returned (.int .i64 (majV p)) ∧ w = w' := by
  by_cases hp : 1 ≤ p ∧ p ≤ 4
  case neg =>
    have Hin : Hid (false = decide (1 ≤ p ∧ p ≤ 4)) := (decide_eq_false hp).symm
    have Hv := Lib.hid (majV_no hp)
    clear hp
    go_enter Try.func9, Try.ntmps9
    go_wp2_with fail
    refine (specL1In13 _ _ _ false Hin _).mono ?_
    rintro e w' ⟨rfl, rfl⟩
    go_wp2
    go_ret
    exact ⟨ret_int (by rw [Hv.out]), rfl⟩
  have Hin : Hid (true = decide (1 ≤ p ∧ p ≤ 4)) := (decide_eq_true hp).symm
  obtain ⟨p, rfl⟩ := Int.eq_ofNat_of_zero_le (show 0 ≤ p by omega)
  have h1 : 1 ≤ p := by omega
  have h4 : p ≤ 4 := by omega
  have Hv := Lib.hid (majV_yes h1 h4)
  obtain ⟨N, hN⟩ : ∃ N, N = 2 ^ p := ⟨_, rfl⟩
  have hsh := shl_p h4 hN
  have hshk := shl_pk h4 hN
  have hN16 := two_16 h4 hN
  have hmp : min p 64 = p := by omega
  have Hd : Hid (majN p = tabF N fun w => decide (p < 2 * heads w)) := by unfold Hid majN; rw [hN]
  clear hp hN
  go_enter Try.func9, Try.ntmps9
  go_wp2_with fail
  refine (specL1In13 _ _ _ true Hin _).mono ?_
  rintro e w' ⟨rfl, rfl⟩
  go_wp2
  go_loop [3, 4] (fun t i => ∃ k : Nat, k ≤ N ∧ i = .int .i64 k ∧ t = .int .i64 (tabF k (fun w => decide (p < 2 * heads w)) : Nat)) (fun _ i => N - (intOf i).toNat)
  case atStart => exact ⟨0, Nat.zero_le _, rfl, by unfold tabF; rfl⟩
  case round =>
    obtain ⟨k, hk, rfl, rfl⟩ := hrel
    by_cases hlt : k < N
    · have hs := tabF_succ k (fun w => decide (p < 2 * heads w))
      have hor := or_shlN (t := tabF k (fun w => decide (p < 2 * heads w))) (x := k) (N := N) (Nat.lt_of_lt_of_le (tabF_lt k _) (Nat.pow_le_pow_right (by decide) hk)) hN16 hlt
      rw [Nat.min_eq_left (by omega)] at hor
      have hh := heads_le k
      have Hh := Lib.hid (fun w => specHeads k (by omega) w)
      generalize tabF k (fun w => decide (p < 2 * heads w)) = T at *
      by_cases hm : p < 2 * heads k
      · rw [if_pos (decide_eq_true hm)] at hs
        have Hs := Lib.hid hs
        have hm' : (p : Int) < 2 * (heads k : Int) := by omega
        clear hs hm
        generalize heads k = hd at *
        go_wp2_with fail
        refine (Hh.out _).mono ?_
        rintro e w' ⟨rfl, rfl⟩
        go_wp2
        go_round
        case rel => exact ⟨k + 1, by omega, by go_num, by rw [Hs.out, ← hor]⟩
        case measure => simp [intOf]; omega
      · rw [if_neg (by rw [decide_eq_false hm]; decide)] at hs
        have Hs := Lib.hid hs
        have hm' : ¬ (p : Int) < 2 * (heads k : Int) := by omega
        clear hs hm hor
        generalize heads k = hd at *
        go_wp2_with fail
        refine (Hh.out _).mono ?_
        rintro e w' ⟨rfl, rfl⟩
        go_wp2
        go_round
        case rel => exact ⟨k + 1, by omega, by go_num, by rw [Hs.out]⟩
        case measure => simp [intOf]; omega
    · obtain rfl : k = N := Nat.le_antisymm hk (Nat.le_of_not_lt hlt)
      go_wp2
      go_ret
      exact ⟨ret_int (by rw [Hv.out, Hd.out]), rfl⟩
set_option maxRecDepth 100000 in
set_option maxHeartbeats 4000000 in
theorem specAsked13 (p T i j : Nat) (s : Bool) (h4 : p ≤ 4) (hi : i < p) (hj : j < p) (_hT : T < 65536) (w : World) :
    Calls Try.prog 32 #[.int .i64 p, .int .i64 T, .int .i64 i, .int .i64 j, .bool s] w fun e w' => e = .returned (.int .i64 (askN p T i j s)) ∧ ∃ n, w.drewN n = w' := by
  obtain ⟨N, hN⟩ : ∃ N, N = 2 ^ p := ⟨_, rfl⟩
  have hsh := shl_p h4 hN
  have hshk := shl_pk h4 hN
  have hN16 := two_16 h4 hN
  have hmp : min p 64 = p := by omega
  obtain ⟨f, hf⟩ : ∃ f : Nat → Bool, f = fun w => T.testBit w && ((w.testBit i == w.testBit j) == s) := ⟨_, rfl⟩
  have Hd : Hid (askN p T i j s = tabF N f) := by unfold Hid askN; rw [hN, hf]
  have Hf : Hid (∀ w, f w = (T.testBit w && ((w.testBit i == w.testBit j) == s))) := fun w => by rw [hf]
  have hmi : min i 64 = i := by omega
  have hmj : min j 64 = j := by omega
  clear hN hf
  go_enter Try.func32, Try.ntmps32
  go_wp2
  go_loopw [11, 12] (fun t i wr => ∃ W : Nat, W ≤ N ∧ i = .int .i64 W ∧ t = .int .i64 (tabF W f : Nat) ∧ ∃ n, w.drewN n = wr) (fun _ i _ => N - (intOf i).toNat)
  case atStart => exact ⟨0, Nat.zero_le _, rfl, by unfold tabF; rfl, 0, rfl⟩
  case round =>
    obtain ⟨W, hW, rfl, rfl, nd, rfl⟩ := hrel
    by_cases hlt : W < N
    · have hs := tabF_succ W f
      have hor := or_shlN (t := tabF W f) (x := W) (N := N) (Nat.lt_of_lt_of_le (tabF_lt W _) (Nat.pow_le_pow_right (by decide) hW)) hN16 hlt
      rw [Nat.min_eq_left (by omega)] at hor
      rw [Hf.out W] at hs
      have hmW : min W 64 = W := by omega
      have hb1 := bit_tmod T W
      have hb2 := bit_tmod W i
      have hb3 := bit_tmod W j
      generalize tabF W f = A at *
      cases ht : T.testBit W with
      | false =>
        rw [ht] at hs
        rw [bitZ_no ht] at hb1
        have hs2 : tabF (W + 1) f = A := hs
        have Hs := Lib.hid hs2
        clear hs hs2 ht hb2 hb3 hor
        go_upto_region 5 with fail
        go_quiet (fail)
        all_goals go_wp2
        all_goals
          go_roundw
          case rel => exact ⟨W + 1, by omega, by go_num, by rw [Hs.out], by first | exact ⟨_, rfl⟩ | exact ⟨_, (World.drewN_drewN _ _ _).symm⟩⟩
          case measure => simp [intOf]; omega
      | true =>
        rw [ht] at hs
        rw [bitZ_yes ht] at hb1
        clear ht
        cases h2 : W.testBit i <;> cases h3 : W.testBit j <;> cases s
        all_goals
          rw [h2, h3] at hs
          first
            | rw [bitZ_no h2] at hb2
            | rw [bitZ_yes h2] at hb2
          first
            | rw [bitZ_no h3] at hb3
            | rw [bitZ_yes h3] at hb3
          clear h2 h3
        all_goals
          first
            | (have hs2 : tabF (W + 1) f = A := hs
               have Hs := Lib.hid hs2
               clear hs hs2 hor
               go_upto_region 5 with fail
               go_quiet (fail)
               go_wp2
               go_roundw
               case rel => exact ⟨W + 1, by omega, by go_num, by rw [Hs.out], by first | exact ⟨_, rfl⟩ | exact ⟨_, (World.drewN_drewN _ _ _).symm⟩⟩
               case measure => simp [intOf]; omega)
            | (have hs2 : tabF (W + 1) f = A ||| 1 <<< W := hs
               have Hs := Lib.hid hs2
               clear hs hs2
               go_upto_region 5 with fail
               go_quiet (fail)
               go_wp2
               go_roundw
               case rel => exact ⟨W + 1, by omega, by go_num, by rw [Hs.out, ← hor], by first | exact ⟨_, rfl⟩ | exact ⟨_, (World.drewN_drewN _ _ _).symm⟩⟩
               case measure => simp [intOf]; omega)
    · obtain rfl : W = N := Nat.le_antisymm hW (Nat.le_of_not_lt hlt)
      go_wp2
      go_ret
      exact ⟨ret_int (by rw [Hd.out]), nd, rfl⟩
set_option maxRecDepth 100000 in
set_option maxHeartbeats 2000000 in
theorem specAskedTable (p t i j : Int) (s : Bool) (w : World) :
    Calls Try.prog 15 #[.int .i64 p, .int .i64 t, .int .i64 i, .int .i64 j, .bool s] w fun e w' => e = .returned (.int .i64 (askV p t i j s)) ∧ ∃ n, w.drewN n = w' := by
  have Ht := Lib.hid (fun w => specTableOk p t w)
  cases ht : tOk p t with
  | false =>
    have Hv := Lib.hid (askV_no (i := i) (j := j) (s := s) ht)
    rw [ht] at Ht
    clear ht
    go_enter Try.func15, Try.ntmps15
    go_wp2_with fail
    refine (Ht.out _).mono ?_
    rintro e w' ⟨rfl, rfl⟩
    go_wp2
    go_ret
    exact ⟨ret_int (by rw [Hv.out]), 0, rfl⟩
  | true =>
    obtain ⟨h1, h4, h3, h5⟩ := tOk_lt ht
    by_cases hi : 0 ≤ i ∧ i ≤ p - 1
    case neg =>
      have Hin : Hid (false = decide (0 ≤ i ∧ i ≤ p - 1)) := (decide_eq_false hi).symm
      have Hv := Lib.hid (askV_i (p := p) (t := t) (i := i) (j := j) (s := s) (by omega))
      rw [ht] at Ht
      clear ht hi
      go_enter Try.func15, Try.ntmps15
      go_wp2_with fail
      refine (Ht.out _).mono ?_
      rintro e w' ⟨rfl, rfl⟩
      go_wp2_with fail
      refine (specL1In13 _ _ _ false Hin _).mono ?_
      rintro e w' ⟨rfl, rfl⟩
      go_wp2
      go_ret
      exact ⟨ret_int (by rw [Hv.out]), 0, rfl⟩
    have Hin : Hid (true = decide (0 ≤ i ∧ i ≤ p - 1)) := (decide_eq_true hi).symm
    by_cases hj : 0 ≤ j ∧ j ≤ p - 1
    case neg =>
      have Hjn : Hid (false = decide (0 ≤ j ∧ j ≤ p - 1)) := (decide_eq_false hj).symm
      have Hv := Lib.hid (askV_j (p := p) (t := t) (i := i) (j := j) (s := s) (by omega))
      rw [ht] at Ht
      clear ht hi hj
      go_enter Try.func15, Try.ntmps15
      go_wp2_with fail
      refine (Ht.out _).mono ?_
      rintro e w' ⟨rfl, rfl⟩
      go_wp2_with fail
      refine (specL1In13 _ _ _ true Hin _).mono ?_
      rintro e w' ⟨rfl, rfl⟩
      go_wp2_with fail
      refine (specL1In13 _ _ _ false Hjn _).mono ?_
      rintro e w' ⟨rfl, rfl⟩
      go_wp2
      go_ret
      exact ⟨ret_int (by rw [Hv.out]), 0, rfl⟩
    have Hjn : Hid (true = decide (0 ≤ j ∧ j ≤ p - 1)) := (decide_eq_true hj).symm
    obtain ⟨T, rfl⟩ := Int.eq_ofNat_of_zero_le h3
    obtain ⟨P, rfl⟩ := Int.eq_ofNat_of_zero_le (show 0 ≤ p by omega)
    obtain ⟨I, rfl⟩ := Int.eq_ofNat_of_zero_le hi.1
    obtain ⟨J, rfl⟩ := Int.eq_ofNat_of_zero_le hj.1
    have hI : I < P := by omega
    have hJ : J < P := by omega
    have Hv := Lib.hid (askV_yes (s := s) ht hI hJ)
    have Hc := Lib.hid (fun w => specAsked13 P T I J s (by omega) hI hJ (by omega) w)
    rw [ht] at Ht
    clear ht hi hj
    generalize askN P T I J s = z at *
    go_enter Try.func15, Try.ntmps15
    go_wp2_with fail
    refine (Ht.out _).mono ?_
    rintro e w' ⟨rfl, rfl⟩
    go_wp2_with fail
    refine (specL1In13 _ _ _ true Hin _).mono ?_
    rintro e w' ⟨rfl, rfl⟩
    go_wp2_with fail
    refine (specL1In13 _ _ _ true Hjn _).mono ?_
    rintro e w' ⟨rfl, rfl⟩
    go_wp2_with fail
    refine (Hc.out _).mono ?_
    rintro e w' ⟨rfl, nd, rfl⟩
    go_wp2
    go_ret
    exact ⟨ret_int (by rw [Hv.out]), nd, rfl⟩
end Go.Proofs.Ytbnickgjnglblaa
/- The first laws of chapter 1: worlds. Each answers true, whatever the code. No condition. -/
namespace Go.Proofs.Ytbnickgjnglblaa
open Go.RowKit

attribute [local irreducible] heads turned tabOf wl

/-- two drawn numbers of which P holds, nothing that was there is changed -/
def Out2 (P : Int → Int → Prop) (w : World) (e : Ending) (w' : World) : Prop :=
  ∃ p x : Int, P p x ∧ e = .returned (.tuple #[.int .i64 p, .int .i64 x]) ∧ Below w.heap.size w w'
theorem below_of_grown {w w1 w' : World} {b : Nat} (h : Below w.heap.size w w1) (hb : w.heap.size ≤ b) (hg : w1.grownBy w' (some b)) : Below w.heap.size w w' :=
  h.grown hg h.size (fun k hk => by cases hk; exact hb)
theorem code_big {n : Nat} (h : ¬ n ≤ 1048576) : (1048576 : Int) < (n : Int) := by omega

set_option maxHeartbeats 400000 in
theorem alive (w : World) : Calls Try.prog 10 #[] w fun e w' => e = .returned (.bool true) ∧ w = w' := by
  go_enter Try.func10, Try.ntmps10
  go_wp2_with fail
  refine (implWorldOk _ _ _).mono ?_
  rintro e w' ⟨rfl, rfl⟩
  rw [show wOk 1 1 = true from by decide]
  go_wp2_with fail
  refine (implWorldOk _ _ _).mono ?_
  rintro e w' ⟨rfl, rfl⟩
  rw [show wOk 1 2 = false from by decide]
  go_wp2
  go_ret
  exact ⟨rfl, rfl⟩



end Go.Proofs.Ytbnickgjnglblaa

namespace Go.Proofs.Ytbnickgjnglblaa
open Go.RowKit
theorem heads_opp {p : Int} {X N : Nat} (h1 : 1 ≤ p) (h2 : p ≤ 4) (hN : (N : Int) = 2 ^ p.toNat) (hX : X < N) : (heads X : Int) + heads (N - 1 - X) = p := by
  rcases p_cases h1 h2 with rfl | rfl | rfl | rfl
  · have : N = 2 := by simp at hN; omega
    subst this
    exact (by decide +kernel : ∀ X : Nat, X < 2 → (heads X : Int) + heads (2 - 1 - X) = 1) X hX
  · have : N = 4 := by simp at hN; omega
    subst this
    exact (by decide +kernel : ∀ X : Nat, X < 4 → (heads X : Int) + heads (4 - 1 - X) = 2) X hX
  · have : N = 8 := by simp at hN; omega
    subst this
    exact (by decide +kernel : ∀ X : Nat, X < 8 → (heads X : Int) + heads (8 - 1 - X) = 3) X hX
  · have : N = 16 := by simp at hN; omega
    subst this
    exact (by decide +kernel : ∀ X : Nat, X < 16 → (heads X : Int) + heads (16 - 1 - X) = 4) X hX
theorem N_even {p : Int} {N : Nat} (h1 : 1 ≤ p) (h2 : p ≤ 4) (hN : (N : Int) = 2 ^ p.toNat) : N = 2 ∨ N = 4 ∨ N = 8 ∨ N = 16 := by
  rcases p_cases h1 h2 with rfl | rfl | rfl | rfl <;> simp at hN <;> omega
theorem wOk_N {p x : Int} {N : Nat} (h : wOk p x = true) (hN : (N : Int) = 2 ^ p.toNat) : 0 ≤ x ∧ x < N := by
  have := wOk_iff.1 h; omega
theorem wOk_of {p x : Int} {N : Nat} (h1 : 1 ≤ p) (h2 : p ≤ 4) (hN : (N : Int) = 2 ^ p.toNat) (h3 : 0 ≤ x) (h4 : x < N) : wOk p x = true :=
  wOk_iff.2 ⟨h1, h2, h3, by omega⟩
end Go.Proofs.Ytbnickgjnglblaa
/- The reference model's draws of chapter 13. -/
namespace Go.Proofs.Ytbnickgjnglblaa
open Go.RowKit Go.Joins
theorem and_small {T M : Nat} (hT : T < 65536) : T &&& M < 65536 := Nat.lt_of_le_of_lt Nat.and_le_left hT
theorem or_small {T M : Nat} (hT : T < 65536) (hM : M < 65536) : T ||| M < 65536 := Nat.or_lt_two_pow (n := 16) hT hM
theorem maj_small (p : Nat) (h4 : p ≤ 4) : majN p < 65536 :=
  Nat.lt_of_lt_of_le (maj_lt p) (by
    have : 2 ^ p ≤ 2 ^ 4 := Nat.pow_le_pow_right (by decide) h4
    exact Nat.pow_le_pow_right (by decide) this)
theorem turned_small {p : Int} {T : Nat} (h1 : 1 ≤ p) (h4 : p ≤ 4) : turned T (2 ^ p.toNat) (2 ^ p.toNat) < 65536 := by
  obtain ⟨a, b⟩ := two_pow_N h1 h4
  exact Nat.lt_of_lt_of_le (turned_lt (Nat.le_refl _) (by omega)) (Nat.pow_le_pow_right (by decide) b)
attribute [local irreducible] majN telN askN solB lv heads turned tabOf wl majV
set_option maxRecDepth 100000 in
set_option maxHeartbeats 4000000 in
theorem l20Known (b c : Nat) (w : World) (hrd : Rd w b c) (hc : c ≤ 549755813888) :
    Calls Try.prog 27 #[.pointer (some ⟨b, 0, none⟩)] w (Drew2 PT b (c + 102) w) := by
  go_enter Try.func27, Try.ntmps27
  go_wp2_with fail
  refine (l20Table b c _ hrd hc).mono ?_
  rintro e w1 ⟨p, t, hP, rfl, hrd1, hg1⟩
  clear hrd
  have Ht := Lib.hid (fun w => specTableOk p t w)
  cases ht : tOk p t with
  | false =>
    rw [ht] at Ht
    have HP := Lib.hid hP
    clear hP ht
    go_wp2_with fail
    refine (pick 2 b _ _ hrd1 (by omega) (by omega) (by omega)).mono ?_
    rintro e w2 ⟨y, hy0, hy2, rfl, hrd2, hg2⟩
    have hG2 := grownBy_trans hg1 hg2
    clear hrd1 hg1 hg2
    by_cases hy : y = 0
    all_goals
      first
        | (have hyb : (y == 0) = true := by rw [beq_iff_eq]; exact hy)
        | (have hyb : (y == 0) = false := by rw [beq_eq_false_iff_ne]; exact hy)
      clear hy hy0 hy2
      go_wp2_with fail
      first
        | (refine (Ht.out _).mono ?_
           rintro e w' ⟨rfl, rfl⟩
           go_wp2_with fail)
        | skip
      refine (pick 4 b _ _ hrd2 (by omega) (by omega) (by omega)).mono ?_
      rintro e w3 ⟨z, hz0, hz2, rfl, hrd3, hg3⟩
      have hG3 := grownBy_trans hG2 hg3
      have Hr3 := Lib.hid hrd3
      have HG3 := Lib.hid hG3
      clear hrd2 hG2 hg3 hG3 hrd3
      by_cases hz : z = 0
      all_goals
        first
          | (have hzb : (z == 0) = true := by rw [beq_iff_eq]; exact hz)
          | (have hzb : (z == 0) = false := by rw [beq_eq_false_iff_ne]; exact hz)
        clear hz hz0 hz2
        go_wp2_with fail
        first
          | (refine (Ht.out _).mono ?_
             rintro e w' ⟨rfl, rfl⟩
             go_wp2)
          | skip
        go_ret2
        exact ⟨p, t, HP.out, rfl, Hr3.out.mono (by omega), HG3.out⟩
  | true =>
    obtain ⟨h1, h4, h3, h5⟩ := tOk_lt ht
    obtain ⟨T, rfl⟩ := Int.eq_ofNat_of_zero_le h3
    obtain ⟨P, rfl⟩ := Int.eq_ofNat_of_zero_le (show 0 ≤ p by omega)
    have hT : T < 65536 := by omega
    have Hm := Lib.hid (fun w => specMajority (P : Int) w)
    rw [majV_yes (by omega) (by omega)] at Hm
    have Hu := Lib.hid (fun w => specTurned (P : Int) T (2 ^ P) h1 h4 (by have := cnt_of (P : Int); rwa [Int.toNat_natCast] at this) w)
    have hMs := maj_small P (by omega)
    have hUs : turned T (2 ^ P) (2 ^ P) < 65536 := by have := turned_small (T := T) h1 h4; rwa [Int.toNat_natCast] at this
    generalize majN P = M at *
    generalize turned T (2 ^ P) (2 ^ P) = U at *
    have hand := bits_and_nat T M (by omega) (by omega)
    have hor := bits_or_nat T U (by omega) (by omega)
    have HA : Hid (T &&& M < 65536) := and_small hT
    have HO : Hid (T ||| U < 65536) := or_small hT hUs
    rw [ht] at Ht
    clear hP ht
    go_wp2_with fail
    refine (pick 2 b _ _ hrd1 (by omega) (by omega) (by omega)).mono ?_
    rintro e w2 ⟨y, hy0, hy2, rfl, hrd2, hg2⟩
    have hG2 := grownBy_trans hg1 hg2
    clear hrd1 hg1 hg2
    by_cases hy : y = 0
    · have hyb : (y == 0) = true := by rw [beq_iff_eq]; exact hy
      have Hr2 := Lib.hid hrd2
      have HG2 := Lib.hid hG2
      clear hy hy0 hy2 hrd2 hG2
      go_wp2_with fail
      refine (Ht.out _).mono ?_
      rintro e w' ⟨rfl, rfl⟩
      go_wp2_with fail
      refine (Hm.out _).mono ?_
      rintro e w' ⟨rfl, rfl⟩
      go_wp2
      go_ret2
      have := HA.out
      exact ⟨P, ((T &&& M : Nat) : Int), ⟨by omega, by omega, by omega, by omega⟩, by first | rfl | rw [hand], Hr2.out.mono (by omega), HG2.out⟩
    · have hyb : (y == 0) = false := by rw [beq_eq_false_iff_ne]; exact hy
      clear hy hy0 hy2 hand HA
      go_wp2_with fail
      refine (pick 4 b _ _ hrd2 (by omega) (by omega) (by omega)).mono ?_
      rintro e w3 ⟨z, hz0, hz2, rfl, hrd3, hg3⟩
      have hG3 := grownBy_trans hG2 hg3
      have Hr3 := Lib.hid hrd3
      have HG3 := Lib.hid hG3
      clear hrd2 hG2 hg3 hG3 hrd3
      by_cases hz : z = 0
      · have hzb : (z == 0) = true := by rw [beq_iff_eq]; exact hz
        clear hz hz0 hz2
        go_wp2_with fail
        refine (Ht.out _).mono ?_
        rintro e w' ⟨rfl, rfl⟩
        go_wp2_with fail
        refine (Hu.out _).mono ?_
        rintro e w' ⟨rfl, nd, rfl⟩
        go_wp2
        go_ret2
        have := HO.out
        exact ⟨P, ((T ||| U : Nat) : Int), ⟨by omega, by omega, by omega, by omega⟩, by first | rfl | rw [hor], Hr3.out.mono (by omega), grownBy_drewN HG3.out nd⟩
      · have hzb : (z == 0) = false := by rw [beq_eq_false_iff_ne]; exact hz
        clear hz hz0 hz2
        go_wp2
        go_ret2
        exact ⟨P, T, ⟨by omega, by omega, by omega, by omega⟩, rfl, Hr3.out.mono (by omega), HG3.out⟩
set_option maxHeartbeats 1000000 in
theorem drawMajorityTable (a : Value) (n : Nat) (w : World) (hr : RdBytes w w.heap.size a n) :
    Calls Try.prog 7 #[a] w fun e w' => ∃ p : Int, (-1 ≤ p ∧ p ≤ 5) ∧ e = .returned (.int .i64 p) ∧ Below w.heap.size w w' := by
  go_enter Try.func7, Try.ntmps7
  go_wp2_with fail
  refine (l20Open _ _ _ hr).mono ?_
  rintro e w1 ⟨b, rfl, hb, hrd, hbel⟩
  go_wp2_with fail
  refine (pick 7 b _ _ hrd (by omega) (by omega) (by omega)).mono ?_
  rintro e w2 ⟨y, hy0, hy2, rfl, hrd2, hg2⟩
  have hB := below_of_grown hbel hb hg2
  clear hrd hrd2 hg2 hbel
  go_wp2
  go_ret
  exact ⟨y - 1, by omega, rfl, hB⟩
theorem results_tmp5 {fn : Func} {a b c d e : Tmp} (h : fn.results = #[.tmp a, .tmp b, .tmp c, .tmp d, .tmp e]) (tmps : Array Value) (P : Program) (w : World) :
    (results fn tmps).run P w = .ok (.tuple #[tmps.getD a undef, tmps.getD b undef, tmps.getD c undef, tmps.getD d undef, tmps.getD e undef]) w := by
  simp [results, h]
def OutAsk (w : World) (e : Ending) (w' : World) : Prop := ∃ (p t i j : Int) (s : Bool), PT p t ∧ e = .returned (.tuple #[.int .i64 p, .int .i64 t, .int .i64 i, .int .i64 j, .bool s]) ∧ Below w.heap.size w w'
theorem div_cases13 {z m : Int} (h0 : 0 ≤ z) (h1 : z < m + 1) (hm2 : 1 < m) : z.tdiv m = 0 ∨ z.tdiv m = 1 := by
  rw [Int.tdiv_eq_ediv_of_nonneg h0]
  by_cases h : z = m
  · right; rw [h]; exact Int.ediv_self (by omega)
  · left; exact Int.ediv_eq_zero_of_lt h0 (by omega)
set_option maxRecDepth 100000 in
set_option maxHeartbeats 4000000 in
theorem drawAskedTable (a : Value) (n : Nat) (w : World) (hr : RdBytes w w.heap.size a n) :
    Calls Try.prog 13 #[a] w (OutAsk w) := by
  go_enter Try.func13, Try.ntmps13
  go_wp2_with fail
  refine (l20Open _ _ _ hr).mono ?_
  rintro e w1 ⟨b, rfl, hb, hrd, hbel⟩
  go_wp2_with fail
  refine (l20Known b 0 _ hrd (by omega)).mono ?_
  rintro e w2 ⟨p, t, ⟨hp1, hp8, ht0, ht1⟩, rfl, hrd2, hg2⟩
  have HT : Hid (-70000 ≤ t ∧ t < 65536) := ⟨ht0, ht1⟩
  obtain ⟨m, hm, hm1, hm4⟩ : ∃ m : Int, min p 4 = m ∧ 1 ≤ m ∧ m ≤ 4 := ⟨_, rfl, by omega, by omega⟩
  have hmi : (if 4 < p then (4 : Int) else p) = m := by rw [← hm]; split <;> omega
  clear hrd ht0 ht1
  go_wp2_with fail
  first
    | rw [hm]
    | rw [hmi]
    | skip
  refine (pick m b _ _ hrd2 (by omega) (by omega) (by omega)).mono ?_
  rintro e w3 ⟨y1, hy0, hy1, rfl, hrd3, hg3⟩
  have hG3 := grownBy_trans hg2 hg3
  clear hrd2 hg2 hg3
  go_wp2_with fail
  refine (pick 40 b _ _ hrd3 (by omega) (by omega) (by omega)).mono ?_
  rintro e w4 ⟨z1, hz0, hz1, rfl, hrd4, hg4⟩
  have hG4 := grownBy_trans hG3 hg4
  have hzz1 := div_cases13 (m := 39) hz0 (by omega) (by omega)
  obtain ⟨Z1, hZ1⟩ : ∃ Z : Int, z1.tdiv 39 = Z := ⟨_, rfl⟩
  have hzd1 : z1 / 39 = Z1 := by rw [← hZ1]; exact (Int.tdiv_eq_ediv_of_nonneg hz0).symm
  rw [hZ1] at hzz1
  have hzb1 : 0 ≤ Z1 ∧ Z1 ≤ 1 := by omega
  clear hrd3 hG3 hg4 hz0 hz1 hzz1
  go_wp2_with fail
  first
    | rw [hm]
    | rw [hmi]
    | skip
  refine (pick m b _ _ hrd4 (by omega) (by omega) (by omega)).mono ?_
  rintro e w5 ⟨y2, hy20, hy21, rfl, hrd5, hg5⟩
  have hG5 := grownBy_trans hG4 hg5
  clear hrd4 hG4 hg5
  go_wp2_with fail
  refine (pick 40 b _ _ hrd5 (by omega) (by omega) (by omega)).mono ?_
  rintro e w6 ⟨z2, hz20, hz21, rfl, hrd6, hg6⟩
  have hG6 := grownBy_trans hG5 hg6
  have hzz2 := div_cases13 (m := 39) hz20 (by omega) (by omega)
  obtain ⟨Z2, hZ2⟩ : ∃ Z : Int, z2.tdiv 39 = Z := ⟨_, rfl⟩
  have hzd2 : z2 / 39 = Z2 := by rw [← hZ2]; exact (Int.tdiv_eq_ediv_of_nonneg hz20).symm
  rw [hZ2] at hzz2
  have hzb2 : 0 ≤ Z2 ∧ Z2 ≤ 1 := by omega
  clear hrd5 hG5 hg6 hz20 hz21 hzz2
  go_wp2_with fail
  refine (pick 2 b _ _ hrd6 (by omega) (by omega) (by omega)).mono ?_
  rintro e w7 ⟨y3, hy30, hy31, rfl, hrd7, hg7⟩
  have hG7 := grownBy_trans hG6 hg7
  have hB := below_of_grown hbel hb hG7
  clear hrd6 hG6 hg7 hG7 hrd7 hbel hm hmi
  go_wp2
  ((try simp only [Exit.inBlock, Exit.then]); refine bodyPost_ret (results_tmp5 rfl _ _ _) rfl ?_)
  exact ⟨p, t, _, _, _, ⟨hp1, hp8, HT.out.1, HT.out.2⟩, rfl, hB⟩
end Go.Proofs.Ytbnickgjnglblaa

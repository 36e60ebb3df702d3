/- Texts of a proof, merged: DoorZ, DrawT, LawsA, DrawMj, AskM. -/
import Derived.Test.YtbnickgjnglblaaDoorMerged8
import Derived.Test.YtbnickgjnglblaaDoorMerged5
import Derived.LaidLaws
import Derived.SevenTiedAt
import Derived.Test.YtbnickgjnglblaaDoorTie
import Derived.Test.YtbnickgjnglblaaDoorCards
import Derived.Test.YtbnickgjnglblaaDoorDraw
import Derived.Test.YtbnickgjnglblaaDoorMerged2
import Derived.WalkKit
import Derived.ProofKit
/- The door: the two tables of math/bits, a world in which they are laid, and what a walk reads of the second. -/
namespace Go.Proofs.YtbnickgjnglblaaDoor
open Go.RowKit
def rowOfZ : DataW Unit → Array Value
  | .agg xs => (xs.map fun | .lit (.int k n) => Value.int k n | _ => .bool false).toArray
  | _ => #[]
def rowIntoZ (d : DataW Unit) : Obj → Obj
  | .cells _ t frozen => .cells (rowOfZ d) t frozen
  | o => o
abbrev tabsZ : List (String × DataW Unit) := [("math/bits.deBruijn32tab", Rows.laid_math_bits_deBruijn32tab), ("math/bits.deBruijn64tab", Rows.laid_math_bits_deBruijn64tab)]
noncomputable def laidWorldZ (os : Os) : World :=
  { World.holding Tryd.prog os ⟨#[], #[], []⟩ with heap := ((World.holding Tryd.prog os ⟨#[], #[], []⟩).heap.modify 0 (rowIntoZ Rows.laid_math_bits_deBruijn32tab)).modify 1 (rowIntoZ Rows.laid_math_bits_deBruijn64tab) }
set_option maxRecDepth 100000 in
theorem laidWorldZ_met (os : Os) (args : Array Value) : laidMet Tryd.prog tabsZ ((laidWorldZ os).forCall (fun _ _ => 0) ⟨#[], args, []⟩).memory :=
  laidMet_of_run' 8 (by kernel_rfl) (by kernel_rfl)
theorem tab64 : (Rows.laid_math_bits_deBruijn64tab : DataW Unit) = Lib.tabData .u8 (Lib.deBruijn64tab.map fun (n : Nat) => (n : Int)) := by kernel_rfl
theorem len64 : (Lib.deBruijn64tab.map fun (n : Nat) => (n : Int)).length = 64 := by kernel_rfl
/-- what the condition says of the second table -/
theorem tabZ_of_laid {W : World} (h : laidMet Tryd.prog tabsZ W) : TabZ W := by
  obtain ⟨ps, ⟨_, _, _, _, _, _, _, _, _, _, ⟨g', t', cs, fuel, p, q, hg, hty, hvar, hd, _, _⟩, _⟩, _⟩ := h
  obtain rfl := Option.some.inj ((show Tryd.prog.globalNamed "math/bits.deBruijn64tab" = some 1 by kernel_rfl).symm.trans hg)
  obtain rfl := Option.some.inj ((show (Tryd.prog.globals[1]?).map (·.type) = some 52 by kernel_rfl).symm.trans hty)
  rw [tab64] at hd
  have hcs := Lib.cells_of_tab Tryd.underlying52 Tryd.underlying5 (by kernel_rfl) (by kernel_rfl) hd
  have hcell : ∀ j, j < 64 → W.cell? ⟨1, j, none⟩ = some (.int .u8 (Lib.deBruijn64tab.getD j 0 : Nat)) := fun j hj => by
    have h1 := World.var?_cell hg hvar j
    have hj' : j < Lib.deBruijn64tab.length := by have := len64; rw [List.length_map] at this; omega
    rw [h1, ← Array.getElem?_toList, hcs]
    simp [List.getD, hj']
  exact ⟨World.block_lt_of_cell? W _ (hcell 0 (by decide)), hcell⟩
end Go.Proofs.YtbnickgjnglblaaDoor
/- The reference model's drawn tables. -/
namespace Go.Proofs.YtbnickgjnglblaaDoor
open Go.RowKit
attribute [local irreducible] heads turned tabOf wl

/-! ### tables -/
def PT (p t : Int) : Prop := 1 ≤ p ∧ p ≤ 8 ∧ -70000 ≤ t ∧ t < 65536
set_option maxRecDepth 100000 in
set_option maxHeartbeats 2000000 in
theorem l20Table (b c : Nat) (w : World) (hrd : Rd w b c) (hc : c ≤ 549755813888) :
    Calls Tryd.prog 34 #[.pointer (some ⟨b, 0, none⟩)] w (Drew2 PT b (c + 100) w) := by
  go_enter Tryd.func34, Tryd.ntmps34
  go_wp2_with fail
  refine (pick _ _ _ _ hrd (by omega) (by omega) (by omega)).mono ?_
  rintro e w1 ⟨x, hx0, hx1, rfl, hrd1, hg1⟩
  obtain ⟨X, rfl⟩ := Int.eq_ofNat_of_zero_le hx0
  clear hrd
  go_wp2_with fail
  refine (pick _ _ _ _ hrd1 (by omega) (by omega) (by omega)).mono ?_
  rintro e w2 ⟨thin, ht0, ht1, rfl, hrd2, hg2⟩
  have hG := grownBy_trans hg1 hg2
  clear hrd1 hg1 hg2 hx0
  generalize hP : (1 + (X : Int)) = P at *
  have hP1 : 1 ≤ P := by omega
  have hP4 : P ≤ 4 := by omega
  clear hP hx1
  have hN := cnt_of P
  obtain ⟨hN2, hN16⟩ := two_pow_N hP1 hP4
  generalize (2 : Nat) ^ P.toNat = N at *
  have hNe := hN.out
  have hsh : wrap64 (2 ^ P.toNat) = (N : Int) := by rw [← hNe]; unfold wrap64; omega
  clear hNe
  go_wp2_with fail
  go_loopw [5, 7] (fun t i wr => ∃ k tb : Nat, k ≤ N ∧ i = .int .i64 k ∧ t = .int .i64 tb ∧ Hid (tb < 2 ^ N) ∧ Rd wr b (c + 2 + k) ∧ w.grownBy wr (some b)) (fun _ i _ => N - (intOf i).toNat)
  case atStart => exact ⟨0, 0, Nat.zero_le _, rfl, rfl, Nat.two_pow_pos _, hrd2, hG⟩
  case round =>
    obtain ⟨k, tb, hk, rfl, rfl, htb, hrk, hGk⟩ := hrel
    by_cases hlt : k < N
    · go_wp2_with fail
      refine (pick _ _ _ _ hrk (by omega) (by omega) (by omega)).mono ?_
      rintro e w3 ⟨y, hy0, hy1, rfl, hrk3, hg3⟩
      have hG3 := grownBy_trans hGk hg3
      have Hr3 := Lib.hid hrk3
      have HG3 := Lib.hid hG3
      clear hrk hGk hrk3 hg3 hG3
      by_cases hy : y = 0
      · have hyb : (y == 0) = true := by rw [beq_iff_eq]; exact hy
        have Hor := Lib.hid (or_shlN (t := tb) (x := k) htb.out hN16 hlt)
        rw [Nat.min_eq_left (show k ≤ 64 by omega)] at Hor
        have Hlt : Hid (tb ||| 1 <<< k < 2 ^ N) := Nat.or_lt_two_pow htb.out (by rw [Nat.one_shiftLeft]; exact Nat.pow_lt_pow_right (by decide) hlt)
        clear hy
        go_wp2
        go_roundw
        case rel => exact ⟨k + 1, _, by omega, by go_num, by rw [Hor.out], Hlt, Hr3.out, HG3.out⟩
        case measure => simp [intOf]; omega
      · have hyb : (y == 0) = false := by rw [beq_eq_false_iff_ne]; exact hy
        clear hy
        go_wp2
        go_roundw
        case rel => exact ⟨k + 1, tb, by omega, by go_num, rfl, htb, Hr3.out, HG3.out⟩
        case measure => simp [intOf]; omega
    · have hlast : tb < 65536 := Nat.lt_of_lt_of_le htb.out (by exact Nat.pow_le_pow_right (by decide) hN16)
      have Hlast := Lib.hid hlast; clear hlast
      go_wp2_with fail
      refine (pick _ _ _ _ hrk (by omega) (by omega) (by omega)).mono ?_
      rintro e w3 ⟨y, hy0, hy1, rfl, hrk3, hg3⟩
      have hG3 := grownBy_trans hGk hg3
      clear hrk hGk hg3
      go_wp2_with fail
      refine (pick _ _ _ _ hrk3 (by omega) (by omega) (by omega)).mono ?_
      rintro e w4 ⟨z, hz0, hz1, rfl, hrk4, hg4⟩
      have hG4 := grownBy_trans hG3 hg4
      have Hr4 := Lib.hid (hrk4.mono (show c + 2 + k + 1 + 1 ≤ c + 100 by omega))
      have HG4 := Lib.hid hG4
      clear hrk3 hrk4 hG3 hg4 hG4
      have htl : (tb : Int) ≤ 100000 := by have := Hlast.out; omega
      go_wp2
      go_ret2
      exact ⟨_, _, ⟨by omega, by omega, by have := Hlast.out; omega, by have := Hlast.out; omega⟩, rfl, Hr4.out, HG4.out⟩
end Go.Proofs.YtbnickgjnglblaaDoor
/- The first laws of chapter 1: worlds. Each answers true, whatever the code. No condition. -/
namespace Go.Proofs.YtbnickgjnglblaaDoor
open Go.RowKit

attribute [local irreducible] heads turned tabOf wl

/-- two drawn numbers of which P holds, nothing that was there is changed -/
def Out2 (P : Int → Int → Prop) (w : World) (e : Ending) (w' : World) : Prop :=
  ∃ p x : Int, P p x ∧ e = .returned (.tuple #[.int .i64 p, .int .i64 x]) ∧ Below w.heap.size w w'
theorem below_of_grown {w w1 w' : World} {b : Nat} (h : Below w.heap.size w w1) (hb : w.heap.size ≤ b) (hg : w1.grownBy w' (some b)) : Below w.heap.size w w' :=
  h.grown hg h.size (fun k hk => by cases hk; exact hb)
theorem code_big {n : Nat} (h : ¬ n ≤ 1048576) : (1048576 : Int) < (n : Int) := by omega

set_option maxHeartbeats 400000 in
theorem alive (w : World) : Calls Tryd.prog 12 #[] w fun e w' => e = .returned (.bool true) ∧ w = w' := by
  go_enter Tryd.func12, Tryd.ntmps12
  go_wp2_with fail
  refine (implWorldOk _ _ _).mono ?_
  rintro e w' ⟨rfl, rfl⟩
  rw [show wOk 1 1 = true from by decide]
  go_wp2_with fail
  refine (implWorldOk _ _ _).mono ?_
  rintro e w' ⟨rfl, rfl⟩
  rw [show wOk 1 2 = false from by decide]
  go_wp2
  go_ret
  exact ⟨rfl, rfl⟩



end Go.Proofs.YtbnickgjnglblaaDoor

namespace Go.Proofs.YtbnickgjnglblaaDoor
open Go.RowKit
theorem heads_opp {p : Int} {X N : Nat} (h1 : 1 ≤ p) (h2 : p ≤ 4) (hN : (N : Int) = 2 ^ p.toNat) (hX : X < N) : (heads X : Int) + heads (N - 1 - X) = p := by
  rcases p_cases h1 h2 with rfl | rfl | rfl | rfl
  · have : N = 2 := by simp at hN; omega
    subst this
    exact (by decide +kernel : ∀ X : Nat, X < 2 → (heads X : Int) + heads (2 - 1 - X) = 1) X hX
  · have : N = 4 := by simp at hN; omega
    subst this
    exact (by decide +kernel : ∀ X : Nat, X < 4 → (heads X : Int) + heads (4 - 1 - X) = 2) X hX
  · have : N = 8 := by simp at hN; omega
    subst this
    exact (by decide +kernel : ∀ X : Nat, X < 8 → (heads X : Int) + heads (8 - 1 - X) = 3) X hX
  · have : N = 16 := by simp at hN; omega
    subst this
    exact (by decide +kernel : ∀ X : Nat, X < 16 → (heads X : Int) + heads (16 - 1 - X) = 4) X hX
theorem N_even {p : Int} {N : Nat} (h1 : 1 ≤ p) (h2 : p ≤ 4) (hN : (N : Int) = 2 ^ p.toNat) : N = 2 ∨ N = 4 ∨ N = 8 ∨ N = 16 := by
  rcases p_cases h1 h2 with rfl | rfl | rfl | rfl <;> simp at hN <;> omega
theorem wOk_N {p x : Int} {N : Nat} (h : wOk p x = true) (hN : (N : Int) = 2 ^ p.toNat) : 0 ≤ x ∧ x < N := by
  have := wOk_iff.1 h; omega
theorem wOk_of {p x : Int} {N : Nat} (h1 : 1 ≤ p) (h2 : p ≤ 4) (hN : (N : Int) = 2 ^ p.toNat) (h3 : 0 ≤ x) (h4 : x < N) : wOk p x = true :=
  wOk_iff.2 ⟨h1, h2, h3, by omega⟩
end Go.Proofs.YtbnickgjnglblaaDoor
/- The reference model's draws of chapter 13. -/
namespace Go.Proofs.YtbnickgjnglblaaDoor
open Go.RowKit Go.Joins
theorem and_small {T M : Nat} (hT : T < 65536) : T &&& M < 65536 := Nat.lt_of_le_of_lt Nat.and_le_left hT
theorem or_small {T M : Nat} (hT : T < 65536) (hM : M < 65536) : T ||| M < 65536 := Nat.or_lt_two_pow (n := 16) hT hM
theorem maj_small (p : Nat) (h4 : p ≤ 4) : majN p < 65536 :=
  Nat.lt_of_lt_of_le (maj_lt p) (by
    have : 2 ^ p ≤ 2 ^ 4 := Nat.pow_le_pow_right (by decide) h4
    exact Nat.pow_le_pow_right (by decide) this)
theorem turned_small {p : Int} {T : Nat} (h1 : 1 ≤ p) (h4 : p ≤ 4) : turned T (2 ^ p.toNat) (2 ^ p.toNat) < 65536 := by
  obtain ⟨a, b⟩ := two_pow_N h1 h4
  exact Nat.lt_of_lt_of_le (turned_lt (Nat.le_refl _) (by omega)) (Nat.pow_le_pow_right (by decide) b)
attribute [local irreducible] majN telN askN solB lv heads turned tabOf wl majV
set_option maxRecDepth 100000 in
set_option maxHeartbeats 4000000 in
theorem l20Known (b c : Nat) (w : World) (hrd : Rd w b c) (hc : c ≤ 549755813888) :
    Calls Tryd.prog 20 #[.pointer (some ⟨b, 0, none⟩)] w (Drew2 PT b (c + 102) w) := by
  go_enter Tryd.func20, Tryd.ntmps20
  go_wp2_with fail
  refine (l20Table b c _ hrd hc).mono ?_
  rintro e w1 ⟨p, t, hP, rfl, hrd1, hg1⟩
  clear hrd
  have Ht := Lib.hid (fun w => specTableOk p t w)
  cases ht : tOk p t with
  | false =>
    rw [ht] at Ht
    have HP := Lib.hid hP
    clear hP ht
    go_wp2_with fail
    refine (pick 2 b _ _ hrd1 (by omega) (by omega) (by omega)).mono ?_
    rintro e w2 ⟨y, hy0, hy2, rfl, hrd2, hg2⟩
    have hG2 := grownBy_trans hg1 hg2
    clear hrd1 hg1 hg2
    by_cases hy : y = 0
    all_goals
      first
        | (have hyb : (y == 0) = true := by rw [beq_iff_eq]; exact hy)
        | (have hyb : (y == 0) = false := by rw [beq_eq_false_iff_ne]; exact hy)
      clear hy hy0 hy2
      go_wp2_with fail
      first
        | (refine (Ht.out _).mono ?_
           rintro e w' ⟨rfl, rfl⟩
           go_wp2_with fail)
        | skip
      refine (pick 4 b _ _ hrd2 (by omega) (by omega) (by omega)).mono ?_
      rintro e w3 ⟨z, hz0, hz2, rfl, hrd3, hg3⟩
      have hG3 := grownBy_trans hG2 hg3
      have Hr3 := Lib.hid hrd3
      have HG3 := Lib.hid hG3
      clear hrd2 hG2 hg3 hG3 hrd3
      by_cases hz : z = 0
      all_goals
        first
          | (have hzb : (z == 0) = true := by rw [beq_iff_eq]; exact hz)
          | (have hzb : (z == 0) = false := by rw [beq_eq_false_iff_ne]; exact hz)
        clear hz hz0 hz2
        go_wp2_with fail
        first
          | (refine (Ht.out _).mono ?_
             rintro e w' ⟨rfl, rfl⟩
             go_wp2)
          | skip
        go_ret2
        exact ⟨p, t, HP.out, rfl, Hr3.out.mono (by omega), HG3.out⟩
  | true =>
    obtain ⟨h1, h4, h3, h5⟩ := tOk_lt ht
    obtain ⟨T, rfl⟩ := Int.eq_ofNat_of_zero_le h3
    obtain ⟨P, rfl⟩ := Int.eq_ofNat_of_zero_le (show 0 ≤ p by omega)
    have hT : T < 65536 := by omega
    have Hm := Lib.hid (fun w => specMajority (P : Int) w)
    rw [majV_yes (by omega) (by omega)] at Hm
    have Hu := Lib.hid (fun w => specTurned (P : Int) T (2 ^ P) h1 h4 (by have := cnt_of (P : Int); rwa [Int.toNat_natCast] at this) w)
    have hMs := maj_small P (by omega)
    have hUs : turned T (2 ^ P) (2 ^ P) < 65536 := by have := turned_small (T := T) h1 h4; rwa [Int.toNat_natCast] at this
    generalize majN P = M at *
    generalize turned T (2 ^ P) (2 ^ P) = U at *
    have hand := bits_and_nat T M (by omega) (by omega)
    have hor := bits_or_nat T U (by omega) (by omega)
    have HA : Hid (T &&& M < 65536) := and_small hT
    have HO : Hid (T ||| U < 65536) := or_small hT hUs
    rw [ht] at Ht
    clear hP ht
    go_wp2_with fail
    refine (pick 2 b _ _ hrd1 (by omega) (by omega) (by omega)).mono ?_
    rintro e w2 ⟨y, hy0, hy2, rfl, hrd2, hg2⟩
    have hG2 := grownBy_trans hg1 hg2
    clear hrd1 hg1 hg2
    by_cases hy : y = 0
    · have hyb : (y == 0) = true := by rw [beq_iff_eq]; exact hy
      have Hr2 := Lib.hid hrd2
      have HG2 := Lib.hid hG2
      clear hy hy0 hy2 hrd2 hG2
      go_wp2_with fail
      refine (Ht.out _).mono ?_
      rintro e w' ⟨rfl, rfl⟩
      go_wp2_with fail
      refine (Hm.out _).mono ?_
      rintro e w' ⟨rfl, rfl⟩
      go_wp2
      go_ret2
      have := HA.out
      exact ⟨P, ((T &&& M : Nat) : Int), ⟨by omega, by omega, by omega, by omega⟩, by first | rfl | rw [hand], Hr2.out.mono (by omega), HG2.out⟩
    · have hyb : (y == 0) = false := by rw [beq_eq_false_iff_ne]; exact hy
      clear hy hy0 hy2 hand HA
      go_wp2_with fail
      refine (pick 4 b _ _ hrd2 (by omega) (by omega) (by omega)).mono ?_
      rintro e w3 ⟨z, hz0, hz2, rfl, hrd3, hg3⟩
      have hG3 := grownBy_trans hG2 hg3
      have Hr3 := Lib.hid hrd3
      have HG3 := Lib.hid hG3
      clear hrd2 hG2 hg3 hG3 hrd3
      by_cases hz : z = 0
      · have hzb : (z == 0) = true := by rw [beq_iff_eq]; exact hz
        clear hz hz0 hz2
        go_wp2_with fail
        refine (Ht.out _).mono ?_
        rintro e w' ⟨rfl, rfl⟩
        go_wp2_with fail
        refine (Hu.out _).mono ?_
        rintro e w' ⟨rfl, nd, rfl⟩
        go_wp2
        go_ret2
        have := HO.out
        exact ⟨P, ((T ||| U : Nat) : Int), ⟨by omega, by omega, by omega, by omega⟩, by first | rfl | rw [hor], Hr3.out.mono (by omega), grownBy_drewN HG3.out nd⟩
      · have hzb : (z == 0) = false := by rw [beq_eq_false_iff_ne]; exact hz
        clear hz hz0 hz2
        go_wp2
        go_ret2
        exact ⟨P, T, ⟨by omega, by omega, by omega, by omega⟩, rfl, Hr3.out.mono (by omega), HG3.out⟩
set_option maxHeartbeats 1000000 in
theorem drawKnownTeller (a : Value) (n : Nat) (w : World) (hr : RdBytes w w.heap.size a n) :
    Calls Tryd.prog 8 #[a] w (Out2 PT w) := by
  go_enter Tryd.func8, Tryd.ntmps8
  go_wp2_with fail
  refine (l20Open _ _ _ hr).mono ?_
  rintro e w1 ⟨b, rfl, hb, hrd, hbel⟩
  go_wp2_with fail
  refine (l20Known _ _ _ hrd (by omega)).mono ?_
  rintro e w2 ⟨p, x, hP, rfl, hrd2, hg2⟩
  have hB := below_of_grown hbel hb hg2
  clear hrd hrd2 hg2 hbel
  have HP := Lib.hid hP; clear hP
  go_wp2
  go_ret2
  exact ⟨_, _, HP.out, rfl, hB⟩
set_option maxHeartbeats 1000000 in
theorem drawLeastAsks (a : Value) (n : Nat) (w : World) (hr : RdBytes w w.heap.size a n) :
    Calls Tryd.prog 14 #[a] w (Out2 PT w) := by
  go_enter Tryd.func14, Tryd.ntmps14
  go_wp2_with fail
  refine (l20Open _ _ _ hr).mono ?_
  rintro e w1 ⟨b, rfl, hb, hrd, hbel⟩
  go_wp2_with fail
  refine (l20Known _ _ _ hrd (by omega)).mono ?_
  rintro e w2 ⟨p, x, hP, rfl, hrd2, hg2⟩
  have hB := below_of_grown hbel hb hg2
  clear hrd hrd2 hg2 hbel
  have HP := Lib.hid hP; clear hP
  go_wp2
  go_ret2
  exact ⟨_, _, HP.out, rfl, hB⟩
end Go.Proofs.YtbnickgjnglblaaDoor
/- Questions: the mathematics, without code. -/
namespace Go.Proofs.YtbnickgjnglblaaDoor
open Go.RowKit
def inOk (p k : Int) : Bool := decide (0 ≤ k ∧ k < p)
/-- what a person answers: 1 for yes, 0 for no, -1 for what is no question -/
def ansN (p k : Int) (ms : List (Int × Int)) (x : Int) : Int := if termOk p ms && (wOk p x && inOk p k) then (if mayT p (k, ms) x.toNat then 1 else 0) else -1
/-- the marks of a chain of questions -/
def chainL : List Int → List (Int × Int) → List (Int × Int)
  | [], ms => ms
  | k :: r, ms => ctermL (k, chainL r ms)
def chainOk (p : Int) (l : List Int) (ms : List (Int × Int)) : Bool := termOk p ms && termOk p (chainL l ms)
def chainV (p : Int) (l : List Int) (ms : List (Int × Int)) : List (Int × Int) := if chainOk p l ms then chainL l ms else []
def alikeV (p k : Int) (ms : List (Int × Int)) : Bool := termOk p ms && (inOk p k && decide (∀ W, W < 2 ^ p.toNat → mayT p (k, ms) W = mayT p (k, ms) (W ^^^ 1 <<< k.toNat)))
/-- how many people of a list lie in a world -/
def liesN (W : Nat) : List Int → Nat
  | [] => 0
  | k :: r => (if W.testBit k.toNat then 0 else 1) + liesN W r
theorem inOk_iff {p k : Int} : inOk p k = true ↔ 0 ≤ k ∧ k < p := by simp [inOk]
theorem ansN_no {p k x : Int} {ms : List (Int × Int)} (h : (termOk p ms && (wOk p x && inOk p k)) = false) : ansN p k ms x = -1 := by unfold ansN; rw [h]; rfl
theorem ansN_yes {p k x : Int} {ms : List (Int × Int)} (h1 : termOk p ms = true) (h2 : wOk p x = true) (h3 : inOk p k = true) : ansN p k ms x = if mayT p (k, ms) x.toNat then 1 else 0 := by unfold ansN; rw [h1, h2, h3]; rfl
/-! ### tricks -/
theorem cterm_len2 (k : Int) (ms : List (Int × Int)) : (ctermL (k, ms)).length = ms.length + 2 := by simp [ctermL]
/-- a trick is a term exactly if that which asks is a claim -/
theorem trick_ok {p k : Int} {ms : List (Int × Int)} (h : termOk p ms = true) : termOk p (ctermL (k, ms)) = claimOk p (k, ms) := by
  rw [Bool.eq_iff_iff, claimOk_iff]
  constructor
  · intro ht
    have hm := termOk_mkOk ht (0, k) (by simp [ctermL])
    unfold mkOk at hm
    simp at hm
    have hl := (termOk_iff.1 ht).2.1
    rw [cterm_len2] at hl
    dsimp only
    exact ⟨by omega, by omega, h, by omega⟩
  · intro hc
    exact (ctermL_ok (claimOk_iff.2 hc)).1
theorem claim_term {p k : Int} {ms : List (Int × Int)} (h : claimOk p (k, ms) = true) : termOk p ms = true ∧ inOk p k = true := by
  obtain ⟨h1, h2, h3, _⟩ := claimOk_iff.1 h
  exact ⟨h3, inOk_iff.2 ⟨h1, h2⟩⟩
theorem trick_term {p k : Int} {ms : List (Int × Int)} (h : claimOk p (k, ms) = true) : termOk p (ctermL (k, ms)) = true := (ctermL_ok h).1
/-- asked a trick, the person says yes exactly if the term holds -/
theorem trick_holds {p k : Int} {ms : List (Int × Int)} (h : claimOk p (k, ms) = true) (W : Nat) : mayT p (k, ctermL (k, ms)) W = holds W (tmOf p ms) := by
  unfold mayT
  dsimp only
  rw [holds_cterm h]
  unfold mayT
  dsimp only
  cases W.testBit k.toNat <;> cases holds W (tmOf p ms) <;> rfl
theorem trick_ans {p k : Int} {ms : List (Int × Int)} (h : claimOk p (k, ms) = true) {x : Int} (hx : wOk p x = true) : (ansN p k (ctermL (k, ms)) x == 1) = holdsV p ms x := by
  obtain ⟨h1, h2⟩ := claim_term h
  rw [ansN_yes (trick_term h) hx h2, trick_holds h]
  unfold holdsV
  rw [h1, hx]
  cases holds x.toNat (tmOf p ms) <;> rfl
/-! ### answers -/
theorem ans_range (p k : Int) (ms : List (Int × Int)) (x : Int) : ansN p k ms x = -1 ∨ ansN p k ms x = 0 ∨ ansN p k ms x = 1 := by
  unfold ansN
  split
  · split
    · exact .inr (.inr rfl)
    · exact .inr (.inl rfl)
  · exact .inl rfl
theorem ans_cases {p k x : Int} {ms : List (Int × Int)} : (ansN p k ms x = -1 ∧ (termOk p ms && (wOk p x && inOk p k)) = false) ∨ (termOk p ms = true ∧ wOk p x = true ∧ inOk p k = true) := by
  cases h : (termOk p ms && (wOk p x && inOk p k)) with
  | false => exact .inl ⟨ansN_no h, rfl⟩
  | true =>
    simp only [Bool.and_eq_true] at h
    exact .inr ⟨h.1, h.2.1, h.2.2⟩
theorem ans_may {p k x : Int} {ms : List (Int × Int)} (h1 : termOk p ms = true) (h2 : wOk p x = true) (h3 : inOk p k = true) : (ansN p k ms x == 1) = mayT p (k, ms) x.toNat ∧ (claimOk p (k, ms) = true → mayV p (k, ms) x = (ansN p k ms x == 1)) ∧ x.toNat.testBit k.toNat = (holdsV p ms x == (ansN p k ms x == 1)) := by
  have e : (ansN p k ms x == 1) = mayT p (k, ms) x.toNat := by
    rw [ansN_yes h1 h2 h3]
    cases mayT p (k, ms) x.toNat <;> rfl
  refine ⟨e, fun hc => by rw [e]; exact mayV_yes hc h2, ?_⟩
  rw [e]
  unfold holdsV mayT
  dsimp only
  rw [h1, h2]
  cases x.toNat.testBit k.toNat <;> cases holds x.toNat (tmOf p ms) <;> rfl
/-! ### chains -/
theorem chain_len (l : List Int) (ms : List (Int × Int)) : (chainL l ms).length = ms.length + 2 * l.length := by
  induction l with
  | nil => simp [chainL]
  | cons k r ih => rw [chainL, cterm_len2, ih, List.length_cons]; omega
theorem chain_people {l : List Int} {ms : List (Int × Int)} : ∀ k ∈ l, ((0 : Int), k) ∈ chainL l ms := by
  induction l with
  | nil => intro k hk; cases hk
  | cons j r ih =>
    intro k hk
    unfold chainL ctermL
    rcases List.mem_cons.1 hk with rfl | hk
    · simp
    · have := ih k hk
      simp [this]
theorem chain_ok {p : Int} {l : List Int} {ms : List (Int × Int)} (h : termOk p ms = true) : termOk p (chainL l ms) = true ↔ (∀ k ∈ l, 0 ≤ k ∧ k < p) ∧ ms.length + 2 * l.length ≤ 15 := by
  constructor
  · intro ht
    refine ⟨fun k hk => ?_, ?_⟩
    · have hm := termOk_mkOk ht _ (chain_people k hk)
      unfold mkOk at hm
      simp at hm
      omega
    · have := (termOk_iff.1 ht).2.1
      rw [chain_len] at this
      exact this
  · rintro ⟨hk, hl⟩
    induction l with
    | nil => exact h
    | cons k r ih =>
      rw [List.length_cons] at hl
      have hr := ih (fun j hj => hk j (by simp [hj])) (by omega)
      have hkk := hk k (by simp)
      refine (ctermL_ok (claimOk_iff.2 ⟨hkk.1, hkk.2, hr, ?_⟩)).1
      show (chainL r ms).length ≤ 13
      rw [chain_len]; omega
theorem chain_step {p k : Int} {r : List Int} {ms : List (Int × Int)} (h : termOk p ms = true) (ht : termOk p (chainL (k :: r) ms) = true) : claimOk p (k, chainL r ms) = true ∧ termOk p (chainL r ms) = true := by
  obtain ⟨h1, h2⟩ := (chain_ok h).1 ht
  rw [List.length_cons] at h2
  have hr := (chain_ok (l := r) h).2 ⟨fun j hj => h1 j (by simp [hj]), by omega⟩
  have hkk := h1 k (by simp)
  refine ⟨claimOk_iff.2 ⟨hkk.1, hkk.2, hr, ?_⟩, hr⟩
  show (chainL r ms).length ≤ 13
  rw [chain_len]; omega
theorem chain_holds {p : Int} {ms : List (Int × Int)} (h : termOk p ms = true) : ∀ (l : List Int), termOk p (chainL l ms) = true → ∀ W : Nat, holds W (tmOf p (chainL l ms)) = (holds W (tmOf p ms) == decide (liesN W l % 2 = 0)) := by
  intro l
  induction l with
  | nil => intro _ W; simp [chainL, liesN]
  | cons k r ih =>
    intro ht W
    obtain ⟨hc, hr⟩ := chain_step h ht
    rw [show chainL (k :: r) ms = ctermL (k, chainL r ms) from rfl, holds_cterm hc]
    unfold mayT
    dsimp only
    rw [ih hr W, show liesN W (k :: r) = (if W.testBit k.toNat then 0 else 1) + liesN W r from rfl]
    rcases Nat.mod_two_eq_zero_or_one (liesN W r) with hm | hm
    · cases hb : W.testBit k.toNat with
      | true => rw [if_pos rfl, Nat.zero_add, hm]; cases holds W (tmOf p ms) <;> rfl
      | false =>
        rw [if_neg (by simp), hm, show (1 + liesN W r) % 2 = 1 by omega]
        cases holds W (tmOf p ms) <;> rfl
    · cases hb : W.testBit k.toNat with
      | true => rw [if_pos rfl, Nat.zero_add, hm]; cases holds W (tmOf p ms) <;> rfl
      | false =>
        rw [if_neg (by simp), hm, show (1 + liesN W r) % 2 = 0 by omega]
        cases holds W (tmOf p ms) <;> rfl
theorem lies_append (W : Nat) (a b : List Int) : liesN W (a ++ b) = liesN W a + liesN W b := by
  induction a with
  | nil => simp [liesN]
  | cons k r ih => simp [liesN, ih]; omega
theorem lies_rev (W : Nat) (l : List Int) : liesN W l.reverse = liesN W l := by
  induction l with
  | nil => rfl
  | cons k r ih => rw [List.reverse_cons, lies_append, ih]; simp [liesN]; omega
theorem lies_le (W : Nat) (l : List Int) : liesN W l ≤ l.length := by
  induction l with
  | nil => exact Nat.le_refl _
  | cons k r ih => unfold liesN; rw [List.length_cons]; split <;> omega
theorem same_of_holds {p : Int} {a b : List (Int × Int)} (ha : termOk p a = true) (hb : termOk p b = true) (h : ∀ W, holds W (tmOf p a) = holds W (tmOf p b)) : sameV p a b = true := by
  unfold sameV
  rw [ha, hb, tabV_yes ha, tabV_yes hb, show (fun w => holds w (tmOf p a)) = fun w => holds w (tmOf p b) from funext h]
  simp
/-- a chain from the last one to the first one asks the same -/
theorem chain_back {p : Int} {l : List Int} {ms : List (Int × Int)} (h : chainOk p l ms = true) (h2 : chainOk p l.reverse ms = true) : sameV p (chainL l ms) (chainL l.reverse ms) = true := by
  unfold chainOk at h h2
  simp only [Bool.and_eq_true] at h h2
  refine same_of_holds h.2 h2.2 fun W => ?_
  rw [chain_holds h.1 l h.2, chain_holds h.1 l.reverse h2.2, lies_rev]
/-- a trick of a trick is the question itself -/
theorem trick_twice {p k : Int} {ms : List (Int × Int)} (h : claimOk p (k, ms) = true) (h2 : claimOk p (k, ctermL (k, ms)) = true) : sameV p (ctermL (k, ctermL (k, ms))) ms = true := by
  refine same_of_holds (trick_term h2) (claim_term h).1 fun W => ?_
  rw [holds_cterm h2, trick_holds h]
/-! ### who is asked alike -/
theorem flip_testBit (W K : Nat) : (W ^^^ 1 <<< K).testBit K = !W.testBit K := by
  rw [Nat.testBit_xor, Nat.one_shiftLeft, Nat.testBit_two_pow_self]
  cases W.testBit K <;> rfl
theorem matter_bit {p k : Int} {ms : List (Int × Int)} (_ : termOk p ms = true) (hk : inOk p k = true) : (matterN p (tmOf p ms)).testBit k.toNat = matters p (tmOf p ms) k.toNat := by
  obtain ⟨h0, h1⟩ := inOk_iff.1 hk
  unfold matterN
  rw [tabF_bit]
  have : k.toNat < p.toNat := by omega
  simp [this]
theorem alike_trick {p k : Int} {ms : List (Int × Int)} (h : claimOk p (k, ms) = true) : alikeV p k (ctermL (k, ms)) = !matters p (tmOf p ms) k.toNat := by
  obtain ⟨h1, h2⟩ := claim_term h
  unfold alikeV matters
  rw [trick_term h, h2, Bool.true_and, Bool.true_and, ← decide_not, decide_eq_decide]
  constructor
  · rintro hall ⟨W, hW, hne⟩
    have := hall W hW
    rw [trick_holds h, trick_holds h] at this
    exact hne this
  · intro hno W hW
    rw [trick_holds h, trick_holds h]
    cases hd : decide (holds W (tmOf p ms) = holds (W ^^^ 1 <<< k.toNat) (tmOf p ms)) with
    | true => exact of_decide_eq_true hd
    | false => exact absurd ⟨W, hW, of_decide_eq_false hd⟩ hno
theorem alike_matters {p k : Int} {ms : List (Int × Int)} (h : alikeV p k ms = true) : matters p (tmOf p ms) k.toNat = true := by
  unfold alikeV at h
  simp only [Bool.and_eq_true, decide_eq_true_eq] at h
  obtain ⟨_, _, h3⟩ := h
  unfold matters
  rw [decide_eq_true_eq]
  refine ⟨0, Nat.two_pow_pos _, ?_⟩
  have := h3 0 (Nat.two_pow_pos _)
  unfold mayT at this
  dsimp only at this
  rw [flip_testBit] at this
  intro e
  rw [e] at this
  revert this
  cases (0 : Nat).testBit k.toNat <;> cases holds (0 ^^^ 1 <<< k.toNat) (tmOf p ms) <;> simp
end Go.Proofs.YtbnickgjnglblaaDoor

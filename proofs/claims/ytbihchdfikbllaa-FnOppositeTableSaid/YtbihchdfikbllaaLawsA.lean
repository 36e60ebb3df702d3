/- The first laws of chapter 1: worlds. Each answers true, whatever the code. No condition. -/
import Derived.Test.YtbihchdfikbllaaTables
import Derived.Test.YtbihchdfikbllaaHelpers
import Derived.Test.YtbihchdfikbllaaFrame
import Derived.Test.YtbihchdfikbllaaDraw
import Derived.WalkKit
import Derived.ProofKit
namespace Go.Proofs.Ytbihchdfikbllaa
open Go.RowKit

attribute [local irreducible] heads turned tabOf wl

/-- two drawn numbers of which P holds, nothing that was there is changed -/
def Out2 (P : Int → Int → Prop) (w : World) (e : Ending) (w' : World) : Prop :=
  ∃ p x : Int, P p x ∧ e = .returned (.tuple #[.int .i64 p, .int .i64 x]) ∧ Below w.heap.size w w'
theorem below_of_grown {w w1 w' : World} {b : Nat} (h : Below w.heap.size w w1) (hb : w.heap.size ≤ b) (hg : w1.grownBy w' (some b)) : Below w.heap.size w w' :=
  h.grown hg h.size (fun k hk => by cases hk; exact hb)
theorem code_big {n : Nat} (h : ¬ n ≤ 1048576) : (1048576 : Int) < (n : Int) := by omega

set_option maxHeartbeats 400000 in
theorem alive (w : World) : Calls Try.prog 37 #[] w fun e w' => e = .returned (.bool true) ∧ w = w' := by
  go_enter Try.func37, Try.ntmps37
  go_wp2_with fail
  refine (implWorldOk _ _ _).mono ?_
  rintro e w' ⟨rfl, rfl⟩
  rw [show wOk 1 1 = true from by decide]
  go_wp2_with fail
  refine (implWorldOk _ _ _).mono ?_
  rintro e w' ⟨rfl, rfl⟩
  rw [show wOk 1 2 = false from by decide]
  go_wp2
  go_ret
  exact ⟨rfl, rfl⟩

def PWOk (p x : Int) : Prop := 0 ≤ p ∧ p ≤ 5 ∧ -1 ≤ x ∧ x ≤ 16
set_option maxHeartbeats 1000000 in
theorem drawWorldOk (a : Value) (n : Nat) (w : World) (hr : RdBytes w w.heap.size a n) :
    Calls Try.prog 36 #[a] w (Out2 PWOk w) := by
  go_enter Try.func36, Try.ntmps36
  go_wp2_with fail
  refine (l20Open _ _ _ hr).mono ?_
  rintro e w1 ⟨b, rfl, hb, hrd, hbel⟩
  go_wp2_with fail
  refine (pick _ _ _ _ hrd (by omega) (by omega) (by omega)).mono ?_
  rintro e w2 ⟨p, hp0, hp1, rfl, hrd2, hg2⟩
  go_wp2_with fail
  refine (pick _ _ _ _ hrd2 (by omega) (by omega) (by omega)).mono ?_
  rintro e w3 ⟨x, hx0, hx1, rfl, hrd3, hg3⟩
  have hB := below_of_grown (below_of_grown hbel hb hg2) hb hg3
  clear hrd hrd2 hrd3 hg2 hg3 hbel
  go_wp2
  go_ret2
  exact ⟨_, _, ⟨hp0, by omega, by omega, by omega⟩, rfl, hB⟩

set_option maxHeartbeats 1000000 in
theorem drawTellersIn (a : Value) (n : Nat) (w : World) (hr : RdBytes w w.heap.size a n) :
    Calls Try.prog 38 #[a] w (Out2 PW w) := by
  go_enter Try.func38, Try.ntmps38
  go_wp2_with fail
  refine (l20Open _ _ _ hr).mono ?_
  rintro e w1 ⟨b, rfl, hb, hrd, hbel⟩
  go_wp2_with fail
  refine (l20World _ _ _ hrd (by omega)).mono ?_
  rintro e w2 ⟨p, x, hP, rfl, hrd2, hg2⟩
  have hB := below_of_grown hbel hb hg2
  clear hrd hrd2 hg2 hbel
  have HP := Lib.hid hP; clear hP
  go_wp2
  go_ret2
  exact ⟨_, _, HP.out, rfl, hB⟩

set_option maxHeartbeats 1000000 in
theorem drawOppositeWorld (a : Value) (n : Nat) (w : World) (hr : RdBytes w w.heap.size a n) :
    Calls Try.prog 39 #[a] w (Out2 PW w) := by
  go_enter Try.func39, Try.ntmps39
  go_wp2_with fail
  refine (l20Open _ _ _ hr).mono ?_
  rintro e w1 ⟨b, rfl, hb, hrd, hbel⟩
  go_wp2_with fail
  refine (l20World _ _ _ hrd (by omega)).mono ?_
  rintro e w2 ⟨p, x, hP, rfl, hrd2, hg2⟩
  have hB := below_of_grown hbel hb hg2
  clear hrd hrd2 hg2 hbel
  have HP := Lib.hid hP; clear hP
  go_wp2
  go_ret2
  exact ⟨_, _, HP.out, rfl, hB⟩
end Go.Proofs.Ytbihchdfikbllaa

namespace Go.Proofs.Ytbihchdfikbllaa
open Go.RowKit
theorem heads_opp {p : Int} {X N : Nat} (h1 : 1 ≤ p) (h2 : p ≤ 4) (hN : (N : Int) = 2 ^ p.toNat) (hX : X < N) : (heads X : Int) + heads (N - 1 - X) = p := by
  rcases p_cases h1 h2 with rfl | rfl | rfl | rfl
  · have : N = 2 := by simp at hN; omega
    subst this
    exact (by decide +kernel : ∀ X : Nat, X < 2 → (heads X : Int) + heads (2 - 1 - X) = 1) X hX
  · have : N = 4 := by simp at hN; omega
    subst this
    exact (by decide +kernel : ∀ X : Nat, X < 4 → (heads X : Int) + heads (4 - 1 - X) = 2) X hX
  · have : N = 8 := by simp at hN; omega
    subst this
    exact (by decide +kernel : ∀ X : Nat, X < 8 → (heads X : Int) + heads (8 - 1 - X) = 3) X hX
  · have : N = 16 := by simp at hN; omega
    subst this
    exact (by decide +kernel : ∀ X : Nat, X < 16 → (heads X : Int) + heads (16 - 1 - X) = 4) X hX
theorem N_even {p : Int} {N : Nat} (h1 : 1 ≤ p) (h2 : p ≤ 4) (hN : (N : Int) = 2 ^ p.toNat) : N = 2 ∨ N = 4 ∨ N = 8 ∨ N = 16 := by
  rcases p_cases h1 h2 with rfl | rfl | rfl | rfl <;> simp at hN <;> omega
theorem wOk_N {p x : Int} {N : Nat} (h : wOk p x = true) (hN : (N : Int) = 2 ^ p.toNat) : 0 ≤ x ∧ x < N := by
  have := wOk_iff.1 h; omega
theorem wOk_of {p x : Int} {N : Nat} (h1 : 1 ≤ p) (h2 : p ≤ 4) (hN : (N : Int) = 2 ^ p.toNat) (h3 : 0 ≤ x) (h4 : x < N) : wOk p x = true :=
  wOk_iff.2 ⟨h1, h2, h3, by omega⟩
end Go.Proofs.Ytbihchdfikbllaa
namespace Go.Proofs.Ytbihchdfikbllaa.fnWorldOk
open Go.ChangeShapes Go.WideShapes Go.ChangeAt Go.RowKit
open Go.ChangeMaps (open_string shut_string)
set_option linter.unusedVariables false
attribute [local irreducible] heads turned tabOf wl
set_option maxHeartbeats 1000000 in
theorem walk (a0 : Value) (n0 : Nat) (w : World) (w0 : RdBytes w w.heap.size a0 n0) :
    Calls Try.prog 10 #[a0] w fun e w' => e = .returned (.bool true) ∧ Below w.heap.size w w' := by
  have hr := w0
  by_cases hbig : n0 ≤ 1048576
  case neg =>
    obtain ⟨ao, cap, rfl, hl, hm, hc⟩ := w0
    have hbig' := code_big hbig
    unfold maxLen at hm
    clear hc hr hbig
    go_enter Try.func10, Try.ntmps10
    go_wp2
    go_ret
    exact ⟨rfl, Below.refl _ _⟩
  have hbig' : (n0 : Int) ≤ 1048576 := by omega
  clear hbig
  obtain ⟨ao, cap, rfl, hl, hm, hc⟩ := w0
  have Hr := Lib.hid hr
  clear hc hr hl hm
  go_enter Try.func10, Try.ntmps10
  go_wp2_with fail
  refine (drawWorldOk _ _ _ Hr.out).mono ?_
  rintro e w1 ⟨p, x, ⟨hp0, hp1, hx0, hx1⟩, rfl, hB⟩
  have hp : p = 0 ∨ p = 5 ∨ p = 1 ∨ p = 2 ∨ p = 3 ∨ p = 4 := by omega
  clear hp0 hp1
  rcases hp with rfl | rfl | rfl | rfl | rfl | rfl
  · go_wp2_with fail
    refine (implWorldOk _ _ _).mono ?_
    rintro e w' ⟨rfl, rfl⟩
    rw [show wOk 0 x = false from by simp [wOk]]
    go_wp2_with fail
    refine (specWorldOk _ _ _).mono ?_
    rintro e w' ⟨rfl, rfl⟩
    rw [show wOk 0 x = false from by simp [wOk]]
    go_wp2_with fail
    refine (alive _).mono ?_
    rintro e w' ⟨rfl, rfl⟩
    go_wp2
    go_ret
    exact ⟨rfl, hB⟩
  · go_wp2_with fail
    refine (implWorldOk _ _ _).mono ?_
    rintro e w' ⟨rfl, rfl⟩
    rw [show wOk 5 x = false from by simp [wOk]]
    go_wp2_with fail
    refine (specWorldOk _ _ _).mono ?_
    rintro e w' ⟨rfl, rfl⟩
    rw [show wOk 5 x = false from by simp [wOk]]
    go_wp2_with fail
    refine (alive _).mono ?_
    rintro e w' ⟨rfl, rfl⟩
    go_wp2
    go_ret
    exact ⟨rfl, hB⟩
  · have hxy : wOk 1 (1 - x) = wOk 1 x := by rw [Bool.eq_iff_iff]; simp [wOk]; omega
    by_cases hx : wOk 1 x = true
    · have Hx := Lib.hid hx; have Hy : Hid (wOk 1 (1 - x) = true) := by rw [hxy]; exact hx
      clear hx hxy
      go_wp2_with fail
      refine (implWorldOk _ _ _).mono ?_
      rintro e w' ⟨rfl, rfl⟩
      rw [Hx.out]
      go_wp2_with fail
      refine (specWorldOk _ _ _).mono ?_
      rintro e w' ⟨rfl, rfl⟩
      rw [Hx.out]
      go_wp2_with fail
      refine (implWorldOk _ _ _).mono ?_
      rintro e w' ⟨rfl, rfl⟩
      rw [show wOk 1 0 = true from by decide]
      go_wp2_with fail
      refine (implWorldOk _ _ _).mono ?_
      rintro e w' ⟨rfl, rfl⟩
      rw [show wOk 1 1 = true from by decide]
      go_wp2_with fail
      refine (implWorldOk _ _ _).mono ?_
      rintro e w' ⟨rfl, rfl⟩
      rw [Hy.out]
      go_wp2_with fail
      refine (implWorldOk _ _ _).mono ?_
      rintro e w' ⟨rfl, rfl⟩
      rw [show wOk 1 2 = false from by decide]
      go_wp2
      go_ret
      exact ⟨rfl, hB⟩
    · have Hx : Hid (wOk 1 x = false) := by simpa [Hid] using hx
      have Hy : Hid (wOk 1 (1 - x) = false) := by rw [hxy]; exact Hx.out
      clear hx hxy
      go_wp2_with fail
      refine (implWorldOk _ _ _).mono ?_
      rintro e w' ⟨rfl, rfl⟩
      rw [Hx.out]
      go_wp2_with fail
      refine (specWorldOk _ _ _).mono ?_
      rintro e w' ⟨rfl, rfl⟩
      rw [Hx.out]
      go_wp2_with fail
      refine (implWorldOk _ _ _).mono ?_
      rintro e w' ⟨rfl, rfl⟩
      rw [show wOk 1 0 = true from by decide]
      go_wp2_with fail
      refine (implWorldOk _ _ _).mono ?_
      rintro e w' ⟨rfl, rfl⟩
      rw [show wOk 1 1 = true from by decide]
      go_wp2_with fail
      refine (implWorldOk _ _ _).mono ?_
      rintro e w' ⟨rfl, rfl⟩
      rw [Hy.out]
      go_wp2_with fail
      refine (implWorldOk _ _ _).mono ?_
      rintro e w' ⟨rfl, rfl⟩
      rw [show wOk 1 2 = false from by decide]
      go_wp2
      go_ret
      exact ⟨rfl, hB⟩
  · have hxy : wOk 2 (3 - x) = wOk 2 x := by rw [Bool.eq_iff_iff]; simp [wOk]; omega
    by_cases hx : wOk 2 x = true
    · have Hx := Lib.hid hx; have Hy : Hid (wOk 2 (3 - x) = true) := by rw [hxy]; exact hx
      clear hx hxy
      go_wp2_with fail
      refine (implWorldOk _ _ _).mono ?_
      rintro e w' ⟨rfl, rfl⟩
      rw [Hx.out]
      go_wp2_with fail
      refine (specWorldOk _ _ _).mono ?_
      rintro e w' ⟨rfl, rfl⟩
      rw [Hx.out]
      go_wp2_with fail
      refine (implWorldOk _ _ _).mono ?_
      rintro e w' ⟨rfl, rfl⟩
      rw [show wOk 2 0 = true from by decide]
      go_wp2_with fail
      refine (implWorldOk _ _ _).mono ?_
      rintro e w' ⟨rfl, rfl⟩
      rw [show wOk 2 3 = true from by decide]
      go_wp2_with fail
      refine (implWorldOk _ _ _).mono ?_
      rintro e w' ⟨rfl, rfl⟩
      rw [Hy.out]
      go_wp2_with fail
      refine (implWorldOk _ _ _).mono ?_
      rintro e w' ⟨rfl, rfl⟩
      rw [show wOk 2 4 = false from by decide]
      go_wp2
      go_ret
      exact ⟨rfl, hB⟩
    · have Hx : Hid (wOk 2 x = false) := by simpa [Hid] using hx
      have Hy : Hid (wOk 2 (3 - x) = false) := by rw [hxy]; exact Hx.out
      clear hx hxy
      go_wp2_with fail
      refine (implWorldOk _ _ _).mono ?_
      rintro e w' ⟨rfl, rfl⟩
      rw [Hx.out]
      go_wp2_with fail
      refine (specWorldOk _ _ _).mono ?_
      rintro e w' ⟨rfl, rfl⟩
      rw [Hx.out]
      go_wp2_with fail
      refine (implWorldOk _ _ _).mono ?_
      rintro e w' ⟨rfl, rfl⟩
      rw [show wOk 2 0 = true from by decide]
      go_wp2_with fail
      refine (implWorldOk _ _ _).mono ?_
      rintro e w' ⟨rfl, rfl⟩
      rw [show wOk 2 3 = true from by decide]
      go_wp2_with fail
      refine (implWorldOk _ _ _).mono ?_
      rintro e w' ⟨rfl, rfl⟩
      rw [Hy.out]
      go_wp2_with fail
      refine (implWorldOk _ _ _).mono ?_
      rintro e w' ⟨rfl, rfl⟩
      rw [show wOk 2 4 = false from by decide]
      go_wp2
      go_ret
      exact ⟨rfl, hB⟩
  · have hxy : wOk 3 (7 - x) = wOk 3 x := by rw [Bool.eq_iff_iff]; simp [wOk]; omega
    by_cases hx : wOk 3 x = true
    · have Hx := Lib.hid hx; have Hy : Hid (wOk 3 (7 - x) = true) := by rw [hxy]; exact hx
      clear hx hxy
      go_wp2_with fail
      refine (implWorldOk _ _ _).mono ?_
      rintro e w' ⟨rfl, rfl⟩
      rw [Hx.out]
      go_wp2_with fail
      refine (specWorldOk _ _ _).mono ?_
      rintro e w' ⟨rfl, rfl⟩
      rw [Hx.out]
      go_wp2_with fail
      refine (implWorldOk _ _ _).mono ?_
      rintro e w' ⟨rfl, rfl⟩
      rw [show wOk 3 0 = true from by decide]
      go_wp2_with fail
      refine (implWorldOk _ _ _).mono ?_
      rintro e w' ⟨rfl, rfl⟩
      rw [show wOk 3 7 = true from by decide]
      go_wp2_with fail
      refine (implWorldOk _ _ _).mono ?_
      rintro e w' ⟨rfl, rfl⟩
      rw [Hy.out]
      go_wp2_with fail
      refine (implWorldOk _ _ _).mono ?_
      rintro e w' ⟨rfl, rfl⟩
      rw [show wOk 3 8 = false from by decide]
      go_wp2
      go_ret
      exact ⟨rfl, hB⟩
    · have Hx : Hid (wOk 3 x = false) := by simpa [Hid] using hx
      have Hy : Hid (wOk 3 (7 - x) = false) := by rw [hxy]; exact Hx.out
      clear hx hxy
      go_wp2_with fail
      refine (implWorldOk _ _ _).mono ?_
      rintro e w' ⟨rfl, rfl⟩
      rw [Hx.out]
      go_wp2_with fail
      refine (specWorldOk _ _ _).mono ?_
      rintro e w' ⟨rfl, rfl⟩
      rw [Hx.out]
      go_wp2_with fail
      refine (implWorldOk _ _ _).mono ?_
      rintro e w' ⟨rfl, rfl⟩
      rw [show wOk 3 0 = true from by decide]
      go_wp2_with fail
      refine (implWorldOk _ _ _).mono ?_
      rintro e w' ⟨rfl, rfl⟩
      rw [show wOk 3 7 = true from by decide]
      go_wp2_with fail
      refine (implWorldOk _ _ _).mono ?_
      rintro e w' ⟨rfl, rfl⟩
      rw [Hy.out]
      go_wp2_with fail
      refine (implWorldOk _ _ _).mono ?_
      rintro e w' ⟨rfl, rfl⟩
      rw [show wOk 3 8 = false from by decide]
      go_wp2
      go_ret
      exact ⟨rfl, hB⟩
  · have hxy : wOk 4 (15 - x) = wOk 4 x := by rw [Bool.eq_iff_iff]; simp [wOk]; omega
    by_cases hx : wOk 4 x = true
    · have Hx := Lib.hid hx; have Hy : Hid (wOk 4 (15 - x) = true) := by rw [hxy]; exact hx
      clear hx hxy
      go_wp2_with fail
      refine (implWorldOk _ _ _).mono ?_
      rintro e w' ⟨rfl, rfl⟩
      rw [Hx.out]
      go_wp2_with fail
      refine (specWorldOk _ _ _).mono ?_
      rintro e w' ⟨rfl, rfl⟩
      rw [Hx.out]
      go_wp2_with fail
      refine (implWorldOk _ _ _).mono ?_
      rintro e w' ⟨rfl, rfl⟩
      rw [show wOk 4 0 = true from by decide]
      go_wp2_with fail
      refine (implWorldOk _ _ _).mono ?_
      rintro e w' ⟨rfl, rfl⟩
      rw [show wOk 4 15 = true from by decide]
      go_wp2_with fail
      refine (implWorldOk _ _ _).mono ?_
      rintro e w' ⟨rfl, rfl⟩
      rw [Hy.out]
      go_wp2_with fail
      refine (implWorldOk _ _ _).mono ?_
      rintro e w' ⟨rfl, rfl⟩
      rw [show wOk 4 16 = false from by decide]
      go_wp2
      go_ret
      exact ⟨rfl, hB⟩
    · have Hx : Hid (wOk 4 x = false) := by simpa [Hid] using hx
      have Hy : Hid (wOk 4 (15 - x) = false) := by rw [hxy]; exact Hx.out
      clear hx hxy
      go_wp2_with fail
      refine (implWorldOk _ _ _).mono ?_
      rintro e w' ⟨rfl, rfl⟩
      rw [Hx.out]
      go_wp2_with fail
      refine (specWorldOk _ _ _).mono ?_
      rintro e w' ⟨rfl, rfl⟩
      rw [Hx.out]
      go_wp2_with fail
      refine (implWorldOk _ _ _).mono ?_
      rintro e w' ⟨rfl, rfl⟩
      rw [show wOk 4 0 = true from by decide]
      go_wp2_with fail
      refine (implWorldOk _ _ _).mono ?_
      rintro e w' ⟨rfl, rfl⟩
      rw [show wOk 4 15 = true from by decide]
      go_wp2_with fail
      refine (implWorldOk _ _ _).mono ?_
      rintro e w' ⟨rfl, rfl⟩
      rw [Hy.out]
      go_wp2_with fail
      refine (implWorldOk _ _ _).mono ?_
      rintro e w' ⟨rfl, rfl⟩
      rw [show wOk 4 16 = false from by decide]
      go_wp2
      go_ret
      exact ⟨rfl, hB⟩

set_option maxRecDepth 100000 in
theorem lifted (os : Os) (started : os.Started) (H : Type) (enc : TypeId × Value → H) :
    ReturnsInHanded {} Try.checked os 10 .any (Rows.fnWorldOkSpec.pre6 enc Try.prog Try.f10 Rows.fnWorldOkRow.domain false) (Rows.fnWorldOkSpec.post enc Try.prog Try.f10 false true false false) := by
  refine returnsInHanded_of_change (C := Try.checked) Try.own started (by kernel_rfl) Try.func10
    (ChangeSpec.witness6 (enc := enc) (C := Try.checked) false ⟨#[], #[.slice none 0 0], []⟩ 8 (by kernel_rfl) (by kernel_rfl) (by kernel_rfl) (by kernel_rfl)) ?_
  intro W base args ds gs before hval0 hW hcnd _
  have hval : ∀ (j : Nat) t v, Try.f10.params[j]? = some t → args[j]? = some v → Value.okWide Try.prog W .any base t v := hval0
  have hW' := hW
  obtain ⟨p, q, hA0, hV, rfl, hfz, hnd⟩ := hW
  have hA : DataW.TrodAll enc Try.prog W 0 (fun _ => true) true Try.f10.params.toList args.toList ds p := hA0
  rw [Try.params10] at hA hval
  obtain ⟨v0, vs0, d0, ds0, p0, q0, hargs, rfl, rfl, h0, r0⟩ := trodAll_cons hA
  obtain ⟨rfl, rfl, rfl⟩ := trodAll_nil r0
  obtain rfl : args = #[v0] := by cases args; simp_all
  obtain ⟨rfl, rfl⟩ := trodVars_none hV
  obtain ⟨a0, len0, cap0, rfl⟩ := okWide_slice Try.underlying31 (hval 0 31 v0 rfl rfl)
  have k0 := h0
  have lt0 : ∀ x ∈ p0, x.block < W.heap.size := by obtain ⟨m, hm⟩ := k0; exact DataW.trod_lt m _ _ _ hm
  obtain ⟨z0, w0⟩ : ∃ zs, IsRow .u8 W a0 len0 cap0 zs := by
    obtain ⟨fuel, hf⟩ := h0
    rcases open_ints Try.underlying31 Try.underlying5 (by kernel_rfl) hf with ⟨hcs, _⟩ | ⟨x, l, c, zs, hcs, _, hl, hm, hz, _, hcell, hwz⟩
    · simp [Value.cells] at hcs
      obtain ⟨rfl, rfl, rfl⟩ := hcs
      exact ⟨[], .inl ⟨rfl, rfl, rfl, rfl⟩⟩
    · simp [Value.cells] at hcs
      obtain ⟨rfl, rfl, rfl⟩ := hcs
      exact ⟨zs, .inr ⟨_, rfl, hl, hm, by simpa using hz, hcell, hwz⟩⟩
  clear hA0 hval0
  refine (walk _ _ W (RdBytes.of_row w0)).mono fun e W' ⟨he, bel⟩ => ?_
  subst he
  exact ⟨_, rfl, _, _, _, [], _, [], hW', trodAll_mk1 (shut_bool Try.underlying4 _), (trodAll_cons_mk (Below.trod Try.laidOut (by kernel_rfl) (of_decide_eq_true (by kernel_rfl)) k0 bel lt0) trodAll_mk0), rfl, bel.frame _, fun h => by cases h⟩

theorem closed : joinedFacts Try.pinned.checked.prog 10 Try.f10 Rows.fnWorldOkSpec Rows.fnWorldOkRow = true := by
  unfold joinedFacts
  exact (and_tt (and_tt (and_tt (and_tt (and_tt (and_tt (and_tt (and_tt (and_tt (and_tt (and_tt (and_tt (and_tt (and_tt (and_tt (and_tt (and_tt (and_tt (and_tt (and_tt (and_tt (and_tt (and_tt (and_tt (and_tt (and_tt (and_tt (and_tt (and_tt (and_tt (and_tt (by kernel_rfl) (by kernel_rfl)) (by kernel_rfl)) (by kernel_rfl)) (by kernel_rfl)) (by kernel_rfl)) (by kernel_rfl)) (by kernel_rfl)) (by kernel_rfl)) (by kernel_rfl)) (by kernel_rfl)) (by kernel_rfl)) (by kernel_rfl)) (by kernel_rfl)) (by kernel_rfl)) (by kernel_rfl)) (by kernel_rfl)) (by kernel_rfl)) (by kernel_rfl)) (by kernel_rfl)) (by kernel_rfl)) (by kernel_rfl)) (by kernel_rfl)) (by kernel_rfl)) (by kernel_rfl)) Try.mayEnter0) (lifted_tt Try.lifts0 rfl)) (make_tt Try.make0 rfl)) (by kernel_rfl)) (by kernel_rfl)) (by kernel_rfl)) (by kernel_rfl))
theorem over : Rows.fnWorldOkRow.holds Try.pinned (OpenSpec.ofChange Rows.fnWorldOkSpec) :=
  OpenClaim.holds_of_wide 10 Try.f10 rfl rfl rfl rfl rfl rfl rfl ⟨rfl, rfl, rfl, rfl, rfl⟩ rfl rfl rfl rfl rfl (by kernel_rfl) Try.func10 closed
    (of_decide_eq_true (by kernel_rfl)) (by unfold Func.isWrapper; first | (rw [if_pos (by decide +kernel)]; kernel_rfl) | (rw [if_neg (by decide +kernel)]; exact ⟨rfl, rfl⟩))
    (fun os started H enc _ => lifted os started H enc)

theorem proved : Rows.FnWorldOkSaid := over
end Go.Proofs.Ytbihchdfikbllaa.fnWorldOk

namespace Go.Proofs.Ytbihchdfikbllaa.fnTellersIn
open Go.ChangeShapes Go.WideShapes Go.ChangeAt Go.RowKit
open Go.ChangeMaps (open_string shut_string)
set_option linter.unusedVariables false
attribute [local irreducible] heads turned tabOf wl
set_option maxHeartbeats 1000000 in
theorem walk (a0 : Value) (n0 : Nat) (w : World) (w0 : RdBytes w w.heap.size a0 n0) :
    Calls Try.prog 11 #[a0] w fun e w' => e = .returned (.bool true) ∧ Below w.heap.size w w' := by
  have hr := w0
  by_cases hbig : n0 ≤ 1048576
  case neg =>
    obtain ⟨ao, cap, rfl, hl, hm, hc⟩ := w0
    have hbig' := code_big hbig
    unfold maxLen at hm
    clear hc hr hbig
    go_enter Try.func11, Try.ntmps11
    go_wp2
    go_ret
    exact ⟨rfl, Below.refl _ _⟩
  have hbig' : (n0 : Int) ≤ 1048576 := by omega
  clear hbig
  obtain ⟨ao, cap, rfl, hl, hm, hc⟩ := w0
  have Hr := Lib.hid hr
  clear hc hr hl hm
  go_enter Try.func11, Try.ntmps11
  go_wp2_with fail
  refine (drawTellersIn _ _ _ Hr.out).mono ?_
  rintro e w1 ⟨p, x, ⟨hp0, hp1, hx0, hx1⟩, rfl, hB⟩
  by_cases hv : wOk p x = true
  · have Hv := Lib.hid hv
    obtain ⟨h1, h2, _, _⟩ := wOk_lt hv
    have HN := cnt_of p
    generalize 2 ^ p.toNat = N at *
    obtain ⟨X, rfl⟩ := Int.eq_ofNat_of_zero_le hx0
    have hXN := wOk_N hv HN.out
    have hX : X < N := by omega
    have hNN := N_even h1 h2 HN.out
    have hN16 : N ≤ 16 := by omega
    have Hy : Hid (wOk p ((N : Int) - 1 - (X : Int)) = true) := wOk_of h1 h2 HN.out (by omega) (by omega)
    have Hsum := Lib.hid (heads_opp h1 h2 HN.out hX)
    have hb1 := heads_le X
    have hb2 := heads_le (N - 1 - X)
    clear hv hNN hXN
    go_wp2_with fail
    refine (implTellersIn_yes _ _ Hv _).mono ?_
    rintro e w' ⟨rfl, rfl⟩
    go_wp2_with fail
    refine (specTellersIn_yes _ _ Hv _).mono ?_
    rintro e w' ⟨rfl, rfl⟩
    go_wp2_with fail
    refine (implOppositeWorld_yes _ _ N Hv HN _).mono ?_
    rintro e w' ⟨rfl, rfl⟩
    go_wp2_with fail
    refine (implTellersIn_yes _ _ Hy _).mono ?_
    rintro e w' ⟨rfl, rfl⟩
    rw [show ((N : Int) - 1 - (X : Int)).toNat = N - 1 - X from by omega]
    have heq : (((heads X : Nat) : Int) + ((heads (N - 1 - X) : Nat) : Int) == p) = true := by rw [beq_iff_eq]; exact Hsum.out
    generalize heads X = h1' at *
    generalize heads (N - 1 - X) = h2' at *
    clear Hsum
    go_wp2
    go_ret
    exact ⟨rfl, hB⟩
  · have Hv : Hid (wOk p x = false) := by simpa [Hid] using hv
    clear hv
    go_wp2_with fail
    refine (implTellersIn_no _ _ Hv _).mono ?_
    rintro e w' ⟨rfl, rfl⟩
    go_wp2_with fail
    refine (specTellersIn_no _ _ Hv _).mono ?_
    rintro e w' ⟨rfl, rfl⟩
    go_wp2_with fail
    refine (alive _).mono ?_
    rintro e w' ⟨rfl, rfl⟩
    go_wp2
    go_ret
    exact ⟨rfl, hB⟩

set_option maxRecDepth 100000 in
theorem lifted (os : Os) (started : os.Started) (H : Type) (enc : TypeId × Value → H) :
    ReturnsInHanded {} Try.checked os 11 .any (Rows.fnTellersInSpec.pre6 enc Try.prog Try.f11 Rows.fnTellersInRow.domain false) (Rows.fnTellersInSpec.post enc Try.prog Try.f11 false true false false) := by
  refine returnsInHanded_of_change (C := Try.checked) Try.own started (by kernel_rfl) Try.func11
    (ChangeSpec.witness6 (enc := enc) (C := Try.checked) false ⟨#[], #[.slice none 0 0], []⟩ 8 (by kernel_rfl) (by kernel_rfl) (by kernel_rfl) (by kernel_rfl)) ?_
  intro W base args ds gs before hval0 hW hcnd _
  have hval : ∀ (j : Nat) t v, Try.f11.params[j]? = some t → args[j]? = some v → Value.okWide Try.prog W .any base t v := hval0
  have hW' := hW
  obtain ⟨p, q, hA0, hV, rfl, hfz, hnd⟩ := hW
  have hA : DataW.TrodAll enc Try.prog W 0 (fun _ => true) true Try.f11.params.toList args.toList ds p := hA0
  rw [Try.params11] at hA hval
  obtain ⟨v0, vs0, d0, ds0, p0, q0, hargs, rfl, rfl, h0, r0⟩ := trodAll_cons hA
  obtain ⟨rfl, rfl, rfl⟩ := trodAll_nil r0
  obtain rfl : args = #[v0] := by cases args; simp_all
  obtain ⟨rfl, rfl⟩ := trodVars_none hV
  obtain ⟨a0, len0, cap0, rfl⟩ := okWide_slice Try.underlying31 (hval 0 31 v0 rfl rfl)
  have k0 := h0
  have lt0 : ∀ x ∈ p0, x.block < W.heap.size := by obtain ⟨m, hm⟩ := k0; exact DataW.trod_lt m _ _ _ hm
  obtain ⟨z0, w0⟩ : ∃ zs, IsRow .u8 W a0 len0 cap0 zs := by
    obtain ⟨fuel, hf⟩ := h0
    rcases open_ints Try.underlying31 Try.underlying5 (by kernel_rfl) hf with ⟨hcs, _⟩ | ⟨x, l, c, zs, hcs, _, hl, hm, hz, _, hcell, hwz⟩
    · simp [Value.cells] at hcs
      obtain ⟨rfl, rfl, rfl⟩ := hcs
      exact ⟨[], .inl ⟨rfl, rfl, rfl, rfl⟩⟩
    · simp [Value.cells] at hcs
      obtain ⟨rfl, rfl, rfl⟩ := hcs
      exact ⟨zs, .inr ⟨_, rfl, hl, hm, by simpa using hz, hcell, hwz⟩⟩
  clear hA0 hval0
  refine (walk _ _ W (RdBytes.of_row w0)).mono fun e W' ⟨he, bel⟩ => ?_
  subst he
  exact ⟨_, rfl, _, _, _, [], _, [], hW', trodAll_mk1 (shut_bool Try.underlying4 _), (trodAll_cons_mk (Below.trod Try.laidOut (by kernel_rfl) (of_decide_eq_true (by kernel_rfl)) k0 bel lt0) trodAll_mk0), rfl, bel.frame _, fun h => by cases h⟩

theorem closed : joinedFacts Try.pinned.checked.prog 11 Try.f11 Rows.fnTellersInSpec Rows.fnTellersInRow = true := by
  unfold joinedFacts
  exact (and_tt (and_tt (and_tt (and_tt (and_tt (and_tt (and_tt (and_tt (and_tt (and_tt (and_tt (and_tt (and_tt (and_tt (and_tt (and_tt (and_tt (and_tt (and_tt (and_tt (and_tt (and_tt (and_tt (and_tt (and_tt (and_tt (and_tt (and_tt (and_tt (and_tt (and_tt (by kernel_rfl) (by kernel_rfl)) (by kernel_rfl)) (by kernel_rfl)) (by kernel_rfl)) (by kernel_rfl)) (by kernel_rfl)) (by kernel_rfl)) (by kernel_rfl)) (by kernel_rfl)) (by kernel_rfl)) (by kernel_rfl)) (by kernel_rfl)) (by kernel_rfl)) (by kernel_rfl)) (by kernel_rfl)) (by kernel_rfl)) (by kernel_rfl)) (by kernel_rfl)) (by kernel_rfl)) (by kernel_rfl)) (by kernel_rfl)) (by kernel_rfl)) (by kernel_rfl)) (by kernel_rfl)) Try.mayEnter0) (lifted_tt Try.lifts0 rfl)) (make_tt Try.make0 rfl)) (by kernel_rfl)) (by kernel_rfl)) (by kernel_rfl)) (by kernel_rfl))
theorem over : Rows.fnTellersInRow.holds Try.pinned (OpenSpec.ofChange Rows.fnTellersInSpec) :=
  OpenClaim.holds_of_wide 11 Try.f11 rfl rfl rfl rfl rfl rfl rfl ⟨rfl, rfl, rfl, rfl, rfl⟩ rfl rfl rfl rfl rfl (by kernel_rfl) Try.func11 closed
    (of_decide_eq_true (by kernel_rfl)) (by unfold Func.isWrapper; first | (rw [if_pos (by decide +kernel)]; kernel_rfl) | (rw [if_neg (by decide +kernel)]; exact ⟨rfl, rfl⟩))
    (fun os started H enc _ => lifted os started H enc)

theorem proved : Rows.FnTellersInSaid := over
end Go.Proofs.Ytbihchdfikbllaa.fnTellersIn

namespace Go.Proofs.Ytbihchdfikbllaa.fnOppositeWorld
open Go.ChangeShapes Go.WideShapes Go.ChangeAt Go.RowKit
open Go.ChangeMaps (open_string shut_string)
set_option linter.unusedVariables false
attribute [local irreducible] heads turned tabOf wl
set_option maxHeartbeats 1000000 in
theorem walk (a0 : Value) (n0 : Nat) (w : World) (w0 : RdBytes w w.heap.size a0 n0) :
    Calls Try.prog 12 #[a0] w fun e w' => e = .returned (.bool true) ∧ Below w.heap.size w w' := by
  have hr := w0
  by_cases hbig : n0 ≤ 1048576
  case neg =>
    obtain ⟨ao, cap, rfl, hl, hm, hc⟩ := w0
    have hbig' := code_big hbig
    unfold maxLen at hm
    clear hc hr hbig
    go_enter Try.func12, Try.ntmps12
    go_wp2
    go_ret
    exact ⟨rfl, Below.refl _ _⟩
  have hbig' : (n0 : Int) ≤ 1048576 := by omega
  clear hbig
  obtain ⟨ao, cap, rfl, hl, hm, hc⟩ := w0
  have Hr := Lib.hid hr
  clear hc hr hl hm
  go_enter Try.func12, Try.ntmps12
  go_wp2_with fail
  refine (drawOppositeWorld _ _ _ Hr.out).mono ?_
  rintro e w1 ⟨p, x, ⟨hp0, hp1, hx0, hx1⟩, rfl, hB⟩
  by_cases hv : wOk p x = true
  · have Hv := Lib.hid hv
    obtain ⟨h1, h2, _, _⟩ := wOk_lt hv
    have HN := cnt_of p
    generalize 2 ^ p.toNat = N at *
    obtain ⟨X, rfl⟩ := Int.eq_ofNat_of_zero_le hx0
    have hXN := wOk_N hv HN.out
    have hX : X < N := by omega
    have hNN := N_even h1 h2 HN.out
    have hN16 : N ≤ 16 := by omega
    have Hy : Hid (wOk p ((N : Int) - 1 - (X : Int)) = true) := wOk_of h1 h2 HN.out (by omega) (by omega)
    have hy0 : 0 ≤ (N : Int) - 1 - (X : Int) := by omega
    have hne : ((N : Int) - 1 - (X : Int) != (X : Int)) = true := by rw [bne_iff_ne]; omega
    have hback : Hid ((N : Int) - 1 - ((N : Int) - 1 - (X : Int)) = (X : Int)) := by unfold Hid; omega
    clear hv hNN hXN
    go_wp2_with fail
    refine (implOppositeWorld_yes _ _ N Hv HN _).mono ?_
    rintro e w' ⟨rfl, rfl⟩
    go_wp2_with fail
    refine (specOppositeWorld_yes _ _ N Hv HN _).mono ?_
    rintro e w' ⟨rfl, rfl⟩
    generalize (N : Int) - 1 - (X : Int) = y at *
    go_wp2_with fail
    refine (implWorldOk _ _ _).mono ?_
    rintro e w' ⟨rfl, rfl⟩
    rw [Hy.out]
    go_wp2_with fail
    refine (implOppositeWorld_yes _ _ N Hy HN _).mono ?_
    rintro e w' ⟨rfl, rfl⟩
    rw [hback.out]
    go_wp2
    go_ret
    exact ⟨rfl, hB⟩
  · have Hv : Hid (wOk p x = false) := by simpa [Hid] using hv
    clear hv
    go_wp2_with fail
    refine (implOppositeWorld_no _ _ Hv _).mono ?_
    rintro e w' ⟨rfl, rfl⟩
    go_wp2_with fail
    refine (specOppositeWorld_no _ _ Hv _).mono ?_
    rintro e w' ⟨rfl, rfl⟩
    go_wp2_with fail
    refine (implWorldOk _ _ _).mono ?_
    rintro e w' ⟨rfl, rfl⟩
    rw [Hv.out]
    go_wp2_with fail
    refine (alive _).mono ?_
    rintro e w' ⟨rfl, rfl⟩
    go_wp2
    go_ret
    exact ⟨rfl, hB⟩

set_option maxRecDepth 100000 in
theorem lifted (os : Os) (started : os.Started) (H : Type) (enc : TypeId × Value → H) :
    ReturnsInHanded {} Try.checked os 12 .any (Rows.fnOppositeWorldSpec.pre6 enc Try.prog Try.f12 Rows.fnOppositeWorldRow.domain false) (Rows.fnOppositeWorldSpec.post enc Try.prog Try.f12 false true false false) := by
  refine returnsInHanded_of_change (C := Try.checked) Try.own started (by kernel_rfl) Try.func12
    (ChangeSpec.witness6 (enc := enc) (C := Try.checked) false ⟨#[], #[.slice none 0 0], []⟩ 8 (by kernel_rfl) (by kernel_rfl) (by kernel_rfl) (by kernel_rfl)) ?_
  intro W base args ds gs before hval0 hW hcnd _
  have hval : ∀ (j : Nat) t v, Try.f12.params[j]? = some t → args[j]? = some v → Value.okWide Try.prog W .any base t v := hval0
  have hW' := hW
  obtain ⟨p, q, hA0, hV, rfl, hfz, hnd⟩ := hW
  have hA : DataW.TrodAll enc Try.prog W 0 (fun _ => true) true Try.f12.params.toList args.toList ds p := hA0
  rw [Try.params12] at hA hval
  obtain ⟨v0, vs0, d0, ds0, p0, q0, hargs, rfl, rfl, h0, r0⟩ := trodAll_cons hA
  obtain ⟨rfl, rfl, rfl⟩ := trodAll_nil r0
  obtain rfl : args = #[v0] := by cases args; simp_all
  obtain ⟨rfl, rfl⟩ := trodVars_none hV
  obtain ⟨a0, len0, cap0, rfl⟩ := okWide_slice Try.underlying31 (hval 0 31 v0 rfl rfl)
  have k0 := h0
  have lt0 : ∀ x ∈ p0, x.block < W.heap.size := by obtain ⟨m, hm⟩ := k0; exact DataW.trod_lt m _ _ _ hm
  obtain ⟨z0, w0⟩ : ∃ zs, IsRow .u8 W a0 len0 cap0 zs := by
    obtain ⟨fuel, hf⟩ := h0
    rcases open_ints Try.underlying31 Try.underlying5 (by kernel_rfl) hf with ⟨hcs, _⟩ | ⟨x, l, c, zs, hcs, _, hl, hm, hz, _, hcell, hwz⟩
    · simp [Value.cells] at hcs
      obtain ⟨rfl, rfl, rfl⟩ := hcs
      exact ⟨[], .inl ⟨rfl, rfl, rfl, rfl⟩⟩
    · simp [Value.cells] at hcs
      obtain ⟨rfl, rfl, rfl⟩ := hcs
      exact ⟨zs, .inr ⟨_, rfl, hl, hm, by simpa using hz, hcell, hwz⟩⟩
  clear hA0 hval0
  refine (walk _ _ W (RdBytes.of_row w0)).mono fun e W' ⟨he, bel⟩ => ?_
  subst he
  exact ⟨_, rfl, _, _, _, [], _, [], hW', trodAll_mk1 (shut_bool Try.underlying4 _), (trodAll_cons_mk (Below.trod Try.laidOut (by kernel_rfl) (of_decide_eq_true (by kernel_rfl)) k0 bel lt0) trodAll_mk0), rfl, bel.frame _, fun h => by cases h⟩

theorem closed : joinedFacts Try.pinned.checked.prog 12 Try.f12 Rows.fnOppositeWorldSpec Rows.fnOppositeWorldRow = true := by
  unfold joinedFacts
  exact (and_tt (and_tt (and_tt (and_tt (and_tt (and_tt (and_tt (and_tt (and_tt (and_tt (and_tt (and_tt (and_tt (and_tt (and_tt (and_tt (and_tt (and_tt (and_tt (and_tt (and_tt (and_tt (and_tt (and_tt (and_tt (and_tt (and_tt (and_tt (and_tt (and_tt (and_tt (by kernel_rfl) (by kernel_rfl)) (by kernel_rfl)) (by kernel_rfl)) (by kernel_rfl)) (by kernel_rfl)) (by kernel_rfl)) (by kernel_rfl)) (by kernel_rfl)) (by kernel_rfl)) (by kernel_rfl)) (by kernel_rfl)) (by kernel_rfl)) (by kernel_rfl)) (by kernel_rfl)) (by kernel_rfl)) (by kernel_rfl)) (by kernel_rfl)) (by kernel_rfl)) (by kernel_rfl)) (by kernel_rfl)) (by kernel_rfl)) (by kernel_rfl)) (by kernel_rfl)) (by kernel_rfl)) Try.mayEnter0) (lifted_tt Try.lifts0 rfl)) (make_tt Try.make0 rfl)) (by kernel_rfl)) (by kernel_rfl)) (by kernel_rfl)) (by kernel_rfl))
theorem over : Rows.fnOppositeWorldRow.holds Try.pinned (OpenSpec.ofChange Rows.fnOppositeWorldSpec) :=
  OpenClaim.holds_of_wide 12 Try.f12 rfl rfl rfl rfl rfl rfl rfl ⟨rfl, rfl, rfl, rfl, rfl⟩ rfl rfl rfl rfl rfl (by kernel_rfl) Try.func12 closed
    (of_decide_eq_true (by kernel_rfl)) (by unfold Func.isWrapper; first | (rw [if_pos (by decide +kernel)]; kernel_rfl) | (rw [if_neg (by decide +kernel)]; exact ⟨rfl, rfl⟩))
    (fun os started H enc _ => lifted os started H enc)

theorem proved : Rows.FnOppositeWorldSaid := over
end Go.Proofs.Ytbihchdfikbllaa.fnOppositeWorld


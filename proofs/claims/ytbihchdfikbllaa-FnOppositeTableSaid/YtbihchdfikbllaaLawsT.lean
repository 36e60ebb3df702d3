/- The first laws of chapter 1: tables. Each answers true, whatever the code. No condition. -/
import Derived.Test.YtbihchdfikbllaaLawsA
import Derived.Test.YtbihchdfikbllaaDrawT
namespace Go.Proofs.Ytbihchdfikbllaa
open Go.RowKit
attribute [local irreducible] heads turned tabOf wl

set_option maxHeartbeats 1000000 in
theorem drawWorldsIn (a : Value) (n : Nat) (w : World) (hr : RdBytes w w.heap.size a n) :
    Calls Try.prog 41 #[a] w (Out2 PT w) := by
  go_enter Try.func41, Try.ntmps41
  go_wp2_with fail
  refine (l20Open _ _ _ hr).mono ?_
  rintro e w1 ⟨b, rfl, hb, hrd, hbel⟩
  go_wp2_with fail
  refine (l20Table _ _ _ hrd (by omega)).mono ?_
  rintro e w2 ⟨p, x, hP, rfl, hrd2, hg2⟩
  have hB := below_of_grown hbel hb hg2
  clear hrd hrd2 hg2 hbel
  have HP := Lib.hid hP; clear hP
  go_wp2
  go_ret2
  exact ⟨_, _, HP.out, rfl, hB⟩

set_option maxHeartbeats 1000000 in
theorem drawOppositeTable (a : Value) (n : Nat) (w : World) (hr : RdBytes w w.heap.size a n) :
    Calls Try.prog 46 #[a] w (Out2 PT w) := by
  go_enter Try.func46, Try.ntmps46
  go_wp2_with fail
  refine (l20Open _ _ _ hr).mono ?_
  rintro e w1 ⟨b, rfl, hb, hrd, hbel⟩
  go_wp2_with fail
  refine (l20Table _ _ _ hrd (by omega)).mono ?_
  rintro e w2 ⟨p, x, hP, rfl, hrd2, hg2⟩
  have hB := below_of_grown hbel hb hg2
  clear hrd hrd2 hg2 hbel
  have HP := Lib.hid hP; clear hP
  go_wp2
  go_ret2
  exact ⟨_, _, HP.out, rfl, hB⟩

def PTO (p t : Int) : Prop := 0 ≤ p ∧ p ≤ 8 ∧ -70000 ≤ t ∧ t < 65536
set_option maxHeartbeats 1000000 in
theorem drawTableOk (a : Value) (n : Nat) (w : World) (hr : RdBytes w w.heap.size a n) :
    Calls Try.prog 40 #[a] w (Out2 PTO w) := by
  go_enter Try.func40, Try.ntmps40
  go_wp2_with fail
  refine (l20Open _ _ _ hr).mono ?_
  rintro e w1 ⟨b, rfl, hb, hrd, hbel⟩
  go_wp2_with fail
  refine (l20Table _ _ _ hrd (by omega)).mono ?_
  rintro e w2 ⟨p, x, ⟨hp1, hp2, ht1, ht2⟩, rfl, hrd2, hg2⟩
  have HT : Hid (-70000 ≤ x ∧ x < 65536) := ⟨ht1, ht2⟩
  clear ht1 ht2
  go_wp2_with fail
  refine (pick _ _ _ _ hrd2 (by omega) (by omega) (by omega)).mono ?_
  rintro e w3 ⟨y, hy0, hy1, rfl, hrd3, hg3⟩
  have hB := below_of_grown (below_of_grown hbel hb hg2) hb hg3
  clear hrd hrd2 hrd3 hg2 hg3 hbel
  go_wp2
  go_ret2
  exact ⟨_, _, ⟨by omega, by omega, HT.out.1, HT.out.2⟩, rfl, hB⟩

/-! ### facts of listed tables -/
theorem nums_getD {l : List Nat} {j : Nat} (hj : j < l.length) : (nums l).getD j 0 = ((l[j] : Nat) : Int) := by simp [nums, List.getD, hj]
theorem wl_asc (T n : Nat) : ∀ j, j + 1 < (nums (wl T n)).length → (nums (wl T n)).getD j 0 < (nums (wl T n)).getD (j + 1) 0 := by
  intro j hj
  rw [nums_length] at hj
  rw [nums_getD (show j < (wl T n).length by omega), nums_getD hj]
  have hp : (wl T n).Pairwise (· < ·) := by unfold wl; exact List.Pairwise.filter _ List.pairwise_lt_range
  have := List.pairwise_iff_getElem.1 hp j (j + 1) (by omega) hj (by omega)
  omega
theorem wl_wOk {p : Int} {T N : Nat} (h1 : 1 ≤ p) (h2 : p ≤ 4) (hN : (N : Int) = 2 ^ p.toNat) : ∀ j, j < (nums (wl T N)).length → wOk p ((nums (wl T N)).getD j 0) = true := by
  intro j hj
  rw [nums_length] at hj
  rw [nums_getD hj]
  have := (wl_mem.1 (List.getElem_mem hj)).1
  exact wOk_of h1 h2 hN (by omega) (by omega)
theorem nums_toNat (l : List Nat) : (nums l).map Int.toNat = l := by
  induction l with
  | nil => rfl
  | cons a r ih => simp only [nums, List.map_cons, List.map_map] at ih ⊢; simp [Function.comp_def]
theorem tow_wl {p : Int} {T N : Nat} (h1 : 1 ≤ p) (h2 : p ≤ 4) (hN : (N : Int) = 2 ^ p.toNat) (hT : T < 2 ^ N) : tow p (nums (wl T N)) = (T : Int) := by
  rw [tow_yes (by simp [pOk]; omega) (wl_wOk h1 h2 hN), nums_toNat, tabOf_wl hT]
theorem tOk_ltN {p : Int} {T N : Nat} (h : tOk p T = true) (hN : (N : Int) = 2 ^ p.toNat) : T < 2 ^ N := by
  obtain ⟨h1, h2, h3, h4⟩ := tOk_iff.1 h
  have hNN : N = 2 ^ p.toNat := by have : ((2 ^ p.toNat : Nat) : Int) = 2 ^ p.toNat := by simp
                                   omega
  subst hNN
  exact_mod_cast h4
end Go.Proofs.Ytbihchdfikbllaa

namespace Go.Proofs.Ytbihchdfikbllaa.fnTableOk
open Go.ChangeShapes Go.WideShapes Go.ChangeAt Go.RowKit
open Go.ChangeMaps (open_string shut_string)
set_option linter.unusedVariables false
attribute [local irreducible] heads turned tabOf wl
set_option maxHeartbeats 1000000 in
theorem walk (a0 : Value) (n0 : Nat) (w : World) (w0 : RdBytes w w.heap.size a0 n0) :
    Calls Try.prog 13 #[a0] w fun e w' => e = .returned (.bool true) ∧ Below w.heap.size w w' := by
  have hr := w0
  by_cases hbig : n0 ≤ 1048576
  case neg =>
    obtain ⟨ao, cap, rfl, hl, hm, hc⟩ := w0
    have hbig' := code_big hbig
    unfold maxLen at hm
    clear hc hr hbig
    go_enter Try.func13, Try.ntmps13
    go_wp2
    go_ret
    exact ⟨rfl, Below.refl _ _⟩
  have hbig' : (n0 : Int) ≤ 1048576 := by omega
  clear hbig
  obtain ⟨ao, cap, rfl, hl, hm, hc⟩ := w0
  have Hr := Lib.hid hr
  clear hc hr hl hm
  go_enter Try.func13, Try.ntmps13
  go_wp2_with fail
  refine (drawTableOk _ _ _ Hr.out).mono ?_
  rintro e w1 ⟨p, x, ⟨hp0, hp1, hx0, hx1⟩, rfl, hB⟩
  have HT : Hid (-70000 ≤ x ∧ x < 65536) := ⟨hx0, hx1⟩
  have hx2 : -100000 ≤ x := by omega
  have hx3 : x ≤ 100000 := by omega
  clear hx0 hx1
  have hp : (p < 1 ∨ 4 < p) ∨ p = 1 ∨ p = 2 ∨ p = 3 ∨ p = 4 := by omega
  clear hp0 hp1
  rcases hp with (hp | hp) | rfl | rfl | rfl | rfl
  · have Hv : Hid (tOk p x = false) := by unfold Hid; simp [tOk]; omega
    go_wp2_with fail
    refine (implTableOk _ _ _).mono ?_
    rintro e w' ⟨rfl, rfl⟩
    rw [Hv.out]
    go_wp2_with fail
    refine (specTableOk _ _ _).mono ?_
    rintro e w' ⟨rfl, rfl⟩
    rw [Hv.out]
    go_wp2_with fail
    refine (alive _).mono ?_
    rintro e w' ⟨rfl, rfl⟩
    go_wp2
    go_ret
    exact ⟨rfl, hB⟩
  · have Hv : Hid (tOk p x = false) := by unfold Hid; simp [tOk]; omega
    go_wp2_with fail
    refine (implTableOk _ _ _).mono ?_
    rintro e w' ⟨rfl, rfl⟩
    rw [Hv.out]
    go_wp2_with fail
    refine (specTableOk _ _ _).mono ?_
    rintro e w' ⟨rfl, rfl⟩
    rw [Hv.out]
    go_wp2_with fail
    refine (alive _).mono ?_
    rintro e w' ⟨rfl, rfl⟩
    go_wp2
    go_ret
    exact ⟨rfl, hB⟩
  · have hxy : tOk 1 (3 - x) = tOk 1 x := by rw [Bool.eq_iff_iff]; simp [tOk]; omega
    by_cases hx : tOk 1 x = true
    · have Hx := Lib.hid hx; have Hy : Hid (tOk 1 (3 - x) = true) := by rw [hxy]; exact hx
      clear hx hxy
      go_wp2_with fail
      refine (implTableOk _ _ _).mono ?_
      rintro e w' ⟨rfl, rfl⟩
      rw [Hx.out]
      go_wp2_with fail
      refine (specTableOk _ _ _).mono ?_
      rintro e w' ⟨rfl, rfl⟩
      rw [Hx.out]
      go_wp2_with fail
      refine (implTableOk _ _ _).mono ?_
      rintro e w' ⟨rfl, rfl⟩
      rw [show tOk 1 0 = true from by decide +kernel]
      go_wp2_with fail
      refine (implTableOk _ _ _).mono ?_
      rintro e w' ⟨rfl, rfl⟩
      rw [Hy.out]
      go_wp2_with fail
      refine (implTableOk _ _ _).mono ?_
      rintro e w' ⟨rfl, rfl⟩
      rw [show tOk 1 3 = true from by decide +kernel]
      go_wp2
      go_ret
      exact ⟨rfl, hB⟩
    · have Hx : Hid (tOk 1 x = false) := by simpa [Hid] using hx
      have Hy : Hid (tOk 1 (3 - x) = false) := by rw [hxy]; exact Hx.out
      clear hx hxy
      go_wp2_with fail
      refine (implTableOk _ _ _).mono ?_
      rintro e w' ⟨rfl, rfl⟩
      rw [Hx.out]
      go_wp2_with fail
      refine (specTableOk _ _ _).mono ?_
      rintro e w' ⟨rfl, rfl⟩
      rw [Hx.out]
      go_wp2_with fail
      refine (implTableOk _ _ _).mono ?_
      rintro e w' ⟨rfl, rfl⟩
      rw [show tOk 1 0 = true from by decide +kernel]
      go_wp2_with fail
      refine (implTableOk _ _ _).mono ?_
      rintro e w' ⟨rfl, rfl⟩
      rw [Hy.out]
      go_wp2_with fail
      refine (implTableOk _ _ _).mono ?_
      rintro e w' ⟨rfl, rfl⟩
      rw [show tOk 1 3 = true from by decide +kernel]
      go_wp2
      go_ret
      exact ⟨rfl, hB⟩
  · have hxy : tOk 2 (15 - x) = tOk 2 x := by rw [Bool.eq_iff_iff]; simp [tOk]; omega
    by_cases hx : tOk 2 x = true
    · have Hx := Lib.hid hx; have Hy : Hid (tOk 2 (15 - x) = true) := by rw [hxy]; exact hx
      clear hx hxy
      go_wp2_with fail
      refine (implTableOk _ _ _).mono ?_
      rintro e w' ⟨rfl, rfl⟩
      rw [Hx.out]
      go_wp2_with fail
      refine (specTableOk _ _ _).mono ?_
      rintro e w' ⟨rfl, rfl⟩
      rw [Hx.out]
      go_wp2_with fail
      refine (implTableOk _ _ _).mono ?_
      rintro e w' ⟨rfl, rfl⟩
      rw [show tOk 2 0 = true from by decide +kernel]
      go_wp2_with fail
      refine (implTableOk _ _ _).mono ?_
      rintro e w' ⟨rfl, rfl⟩
      rw [Hy.out]
      go_wp2_with fail
      refine (implTableOk _ _ _).mono ?_
      rintro e w' ⟨rfl, rfl⟩
      rw [show tOk 2 15 = true from by decide +kernel]
      go_wp2
      go_ret
      exact ⟨rfl, hB⟩
    · have Hx : Hid (tOk 2 x = false) := by simpa [Hid] using hx
      have Hy : Hid (tOk 2 (15 - x) = false) := by rw [hxy]; exact Hx.out
      clear hx hxy
      go_wp2_with fail
      refine (implTableOk _ _ _).mono ?_
      rintro e w' ⟨rfl, rfl⟩
      rw [Hx.out]
      go_wp2_with fail
      refine (specTableOk _ _ _).mono ?_
      rintro e w' ⟨rfl, rfl⟩
      rw [Hx.out]
      go_wp2_with fail
      refine (implTableOk _ _ _).mono ?_
      rintro e w' ⟨rfl, rfl⟩
      rw [show tOk 2 0 = true from by decide +kernel]
      go_wp2_with fail
      refine (implTableOk _ _ _).mono ?_
      rintro e w' ⟨rfl, rfl⟩
      rw [Hy.out]
      go_wp2_with fail
      refine (implTableOk _ _ _).mono ?_
      rintro e w' ⟨rfl, rfl⟩
      rw [show tOk 2 15 = true from by decide +kernel]
      go_wp2
      go_ret
      exact ⟨rfl, hB⟩
  · have hxy : tOk 3 (255 - x) = tOk 3 x := by rw [Bool.eq_iff_iff]; simp [tOk]; omega
    by_cases hx : tOk 3 x = true
    · have Hx := Lib.hid hx; have Hy : Hid (tOk 3 (255 - x) = true) := by rw [hxy]; exact hx
      clear hx hxy
      go_wp2_with fail
      refine (implTableOk _ _ _).mono ?_
      rintro e w' ⟨rfl, rfl⟩
      rw [Hx.out]
      go_wp2_with fail
      refine (specTableOk _ _ _).mono ?_
      rintro e w' ⟨rfl, rfl⟩
      rw [Hx.out]
      go_wp2_with fail
      refine (implTableOk _ _ _).mono ?_
      rintro e w' ⟨rfl, rfl⟩
      rw [show tOk 3 0 = true from by decide +kernel]
      go_wp2_with fail
      refine (implTableOk _ _ _).mono ?_
      rintro e w' ⟨rfl, rfl⟩
      rw [Hy.out]
      go_wp2_with fail
      refine (implTableOk _ _ _).mono ?_
      rintro e w' ⟨rfl, rfl⟩
      rw [show tOk 3 255 = true from by decide +kernel]
      go_wp2
      go_ret
      exact ⟨rfl, hB⟩
    · have Hx : Hid (tOk 3 x = false) := by simpa [Hid] using hx
      have Hy : Hid (tOk 3 (255 - x) = false) := by rw [hxy]; exact Hx.out
      clear hx hxy
      go_wp2_with fail
      refine (implTableOk _ _ _).mono ?_
      rintro e w' ⟨rfl, rfl⟩
      rw [Hx.out]
      go_wp2_with fail
      refine (specTableOk _ _ _).mono ?_
      rintro e w' ⟨rfl, rfl⟩
      rw [Hx.out]
      go_wp2_with fail
      refine (implTableOk _ _ _).mono ?_
      rintro e w' ⟨rfl, rfl⟩
      rw [show tOk 3 0 = true from by decide +kernel]
      go_wp2_with fail
      refine (implTableOk _ _ _).mono ?_
      rintro e w' ⟨rfl, rfl⟩
      rw [Hy.out]
      go_wp2_with fail
      refine (implTableOk _ _ _).mono ?_
      rintro e w' ⟨rfl, rfl⟩
      rw [show tOk 3 255 = true from by decide +kernel]
      go_wp2
      go_ret
      exact ⟨rfl, hB⟩
  · have hxy : tOk 4 (65535 - x) = tOk 4 x := by rw [Bool.eq_iff_iff]; simp [tOk]; omega
    by_cases hx : tOk 4 x = true
    · have Hx := Lib.hid hx; have Hy : Hid (tOk 4 (65535 - x) = true) := by rw [hxy]; exact hx
      clear hx hxy
      go_wp2_with fail
      refine (implTableOk _ _ _).mono ?_
      rintro e w' ⟨rfl, rfl⟩
      rw [Hx.out]
      go_wp2_with fail
      refine (specTableOk _ _ _).mono ?_
      rintro e w' ⟨rfl, rfl⟩
      rw [Hx.out]
      go_wp2_with fail
      refine (implTableOk _ _ _).mono ?_
      rintro e w' ⟨rfl, rfl⟩
      rw [show tOk 4 0 = true from by decide +kernel]
      go_wp2_with fail
      refine (implTableOk _ _ _).mono ?_
      rintro e w' ⟨rfl, rfl⟩
      rw [Hy.out]
      go_wp2_with fail
      refine (implTableOk _ _ _).mono ?_
      rintro e w' ⟨rfl, rfl⟩
      rw [show tOk 4 65535 = true from by decide +kernel]
      go_wp2
      go_ret
      exact ⟨rfl, hB⟩
    · have Hx : Hid (tOk 4 x = false) := by simpa [Hid] using hx
      have Hy : Hid (tOk 4 (65535 - x) = false) := by rw [hxy]; exact Hx.out
      clear hx hxy
      go_wp2_with fail
      refine (implTableOk _ _ _).mono ?_
      rintro e w' ⟨rfl, rfl⟩
      rw [Hx.out]
      go_wp2_with fail
      refine (specTableOk _ _ _).mono ?_
      rintro e w' ⟨rfl, rfl⟩
      rw [Hx.out]
      go_wp2_with fail
      refine (implTableOk _ _ _).mono ?_
      rintro e w' ⟨rfl, rfl⟩
      rw [show tOk 4 0 = true from by decide +kernel]
      go_wp2_with fail
      refine (implTableOk _ _ _).mono ?_
      rintro e w' ⟨rfl, rfl⟩
      rw [Hy.out]
      go_wp2_with fail
      refine (implTableOk _ _ _).mono ?_
      rintro e w' ⟨rfl, rfl⟩
      rw [show tOk 4 65535 = true from by decide +kernel]
      go_wp2
      go_ret
      exact ⟨rfl, hB⟩

set_option maxRecDepth 100000 in
theorem lifted (os : Os) (started : os.Started) (H : Type) (enc : TypeId × Value → H) :
    ReturnsInHanded {} Try.checked os 13 .any (Rows.fnTableOkSpec.pre6 enc Try.prog Try.f13 Rows.fnTableOkRow.domain false) (Rows.fnTableOkSpec.post enc Try.prog Try.f13 false true false false) := by
  refine returnsInHanded_of_change (C := Try.checked) Try.own started (by kernel_rfl) Try.func13
    (ChangeSpec.witness6 (enc := enc) (C := Try.checked) false ⟨#[], #[.slice none 0 0], []⟩ 8 (by kernel_rfl) (by kernel_rfl) (by kernel_rfl) (by kernel_rfl)) ?_
  intro W base args ds gs before hval0 hW hcnd _
  have hval : ∀ (j : Nat) t v, Try.f13.params[j]? = some t → args[j]? = some v → Value.okWide Try.prog W .any base t v := hval0
  have hW' := hW
  obtain ⟨p, q, hA0, hV, rfl, hfz, hnd⟩ := hW
  have hA : DataW.TrodAll enc Try.prog W 0 (fun _ => true) true Try.f13.params.toList args.toList ds p := hA0
  rw [Try.params13] at hA hval
  obtain ⟨v0, vs0, d0, ds0, p0, q0, hargs, rfl, rfl, h0, r0⟩ := trodAll_cons hA
  obtain ⟨rfl, rfl, rfl⟩ := trodAll_nil r0
  obtain rfl : args = #[v0] := by cases args; simp_all
  obtain ⟨rfl, rfl⟩ := trodVars_none hV
  obtain ⟨a0, len0, cap0, rfl⟩ := okWide_slice Try.underlying31 (hval 0 31 v0 rfl rfl)
  have k0 := h0
  have lt0 : ∀ x ∈ p0, x.block < W.heap.size := by obtain ⟨m, hm⟩ := k0; exact DataW.trod_lt m _ _ _ hm
  obtain ⟨z0, w0⟩ : ∃ zs, IsRow .u8 W a0 len0 cap0 zs := by
    obtain ⟨fuel, hf⟩ := h0
    rcases open_ints Try.underlying31 Try.underlying5 (by kernel_rfl) hf with ⟨hcs, _⟩ | ⟨x, l, c, zs, hcs, _, hl, hm, hz, _, hcell, hwz⟩
    · simp [Value.cells] at hcs
      obtain ⟨rfl, rfl, rfl⟩ := hcs
      exact ⟨[], .inl ⟨rfl, rfl, rfl, rfl⟩⟩
    · simp [Value.cells] at hcs
      obtain ⟨rfl, rfl, rfl⟩ := hcs
      exact ⟨zs, .inr ⟨_, rfl, hl, hm, by simpa using hz, hcell, hwz⟩⟩
  clear hA0 hval0
  refine (walk _ _ W (RdBytes.of_row w0)).mono fun e W' ⟨he, bel⟩ => ?_
  subst he
  exact ⟨_, rfl, _, _, _, [], _, [], hW', trodAll_mk1 (shut_bool Try.underlying4 _), (trodAll_cons_mk (Below.trod Try.laidOut (by kernel_rfl) (of_decide_eq_true (by kernel_rfl)) k0 bel lt0) trodAll_mk0), rfl, bel.frame _, fun h => by cases h⟩

theorem closed : joinedFacts Try.pinned.checked.prog 13 Try.f13 Rows.fnTableOkSpec Rows.fnTableOkRow = true := by
  unfold joinedFacts
  exact (and_tt (and_tt (and_tt (and_tt (and_tt (and_tt (and_tt (and_tt (and_tt (and_tt (and_tt (and_tt (and_tt (and_tt (and_tt (and_tt (and_tt (and_tt (and_tt (and_tt (and_tt (and_tt (and_tt (and_tt (and_tt (and_tt (and_tt (and_tt (and_tt (and_tt (and_tt (by kernel_rfl) (by kernel_rfl)) (by kernel_rfl)) (by kernel_rfl)) (by kernel_rfl)) (by kernel_rfl)) (by kernel_rfl)) (by kernel_rfl)) (by kernel_rfl)) (by kernel_rfl)) (by kernel_rfl)) (by kernel_rfl)) (by kernel_rfl)) (by kernel_rfl)) (by kernel_rfl)) (by kernel_rfl)) (by kernel_rfl)) (by kernel_rfl)) (by kernel_rfl)) (by kernel_rfl)) (by kernel_rfl)) (by kernel_rfl)) (by kernel_rfl)) (by kernel_rfl)) (by kernel_rfl)) Try.mayEnter0) (lifted_tt Try.lifts0 rfl)) (make_tt Try.make0 rfl)) (by kernel_rfl)) (by kernel_rfl)) (by kernel_rfl)) (by kernel_rfl))
theorem over : Rows.fnTableOkRow.holds Try.pinned (OpenSpec.ofChange Rows.fnTableOkSpec) :=
  OpenClaim.holds_of_wide 13 Try.f13 rfl rfl rfl rfl rfl rfl rfl ⟨rfl, rfl, rfl, rfl, rfl⟩ rfl rfl rfl rfl rfl (by kernel_rfl) Try.func13 closed
    (of_decide_eq_true (by kernel_rfl)) (by unfold Func.isWrapper; first | (rw [if_pos (by decide +kernel)]; kernel_rfl) | (rw [if_neg (by decide +kernel)]; exact ⟨rfl, rfl⟩))
    (fun os started H enc _ => lifted os started H enc)

theorem proved : Rows.FnTableOkSaid := over
end Go.Proofs.Ytbihchdfikbllaa.fnTableOk

namespace Go.Proofs.Ytbihchdfikbllaa.fnWorldsIn
open Go.ChangeShapes Go.WideShapes Go.ChangeAt Go.RowKit
open Go.ChangeMaps (open_string shut_string)
set_option linter.unusedVariables false
attribute [local irreducible] heads turned tabOf wl
set_option maxHeartbeats 1000000 in
theorem walk (a0 : Value) (n0 : Nat) (w : World) (w0 : RdBytes w w.heap.size a0 n0) :
    Calls Try.prog 14 #[a0] w fun e w' => e = .returned (.bool true) ∧ Below w.heap.size w w' := by
  have hr := w0
  by_cases hbig : n0 ≤ 1048576
  case neg =>
    obtain ⟨ao, cap, rfl, hl, hm, hc⟩ := w0
    have hbig' := code_big hbig
    unfold maxLen at hm
    clear hc hr hbig
    go_enter Try.func14, Try.ntmps14
    go_wp2
    go_ret
    exact ⟨rfl, Below.refl _ _⟩
  have hbig' : (n0 : Int) ≤ 1048576 := by omega
  clear hbig
  obtain ⟨ao, cap, rfl, hl, hm, hc⟩ := w0
  have Hr := Lib.hid hr
  clear hc hr hl hm
  go_enter Try.func14, Try.ntmps14
  go_wp2_with fail
  refine (drawWorldsIn _ _ _ Hr.out).mono ?_
  rintro e w1 ⟨p, t, ⟨hp0, hp1, hx0, hx1⟩, rfl, hB⟩
  have HT : Hid (-70000 ≤ t ∧ t < 65536) := ⟨hx0, hx1⟩
  clear hx0 hx1
  go_wp2_with fail
  refine (implWorldsIn _ _ _).mono ?_
  rintro e w2 ⟨vi, rfl, hown2, hb2⟩
  rw [vals_nums, ← nums_length] at hown2
  have Hown2 := Lib.hid hown2; clear hown2
  have hB2 := hB.trans (hb2.mono hB.size)
  go_wp2_with fail
  refine (specWorldsIn _ _ _).mono ?_
  rintro e w3 ⟨vs, rfl, hown3, hb3⟩
  rw [vals_nums, ← nums_length] at hown3
  have Hown3 := Lib.hid hown3; clear hown3
  have hB3 := hB2.trans (hb3.mono hB2.size)
  go_wp2_with fail
  have hrd2 := (RdInts.of_own Hown2.out).below (w' := w3) (below_block hb3 (Nat.le_refl _))
  refine (sameInts _ _ _ _ _ _ _ hrd2 (RdInts.of_own Hown3.out)).mono ?_
  rintro e w4 ⟨rfl, n4, rfl⟩
  rw [show decide (nums (wlp p t) = nums (wlp p t)) = true from by simp]
  by_cases hv : tOk p t = true
  · obtain ⟨h1, h2, h3, _⟩ := tOk_lt hv
    obtain ⟨T, rfl⟩ := Int.eq_ofNat_of_zero_le h3
    have HN := cnt_of p
    have hwlp := wlp_yes hv
    rw [Int.toNat_natCast] at hwlp
    rw [hwlp] at hrd2
    generalize 2 ^ p.toNat = N at *
    have Hasc : Hid _ := wl_asc T N
    have Hall : Hid _ := wl_wOk (T := T) h1 h2 HN.out
    have Htow := Lib.hid (tow_wl h1 h2 HN.out (tOk_ltN hv HN.out))
    have Hv := Lib.hid hv
    clear hv hwlp h3
    generalize nums (wl T N) = zs at *
    have hrd4 : RdInts (w3.drewN n4) w2.heap.size vi zs := hrd2
    have Hrd4 := Lib.hid hrd4
    have hB4 : Below w.heap.size w (w3.drewN n4) := below_drewN hB3 n4
    clear hrd2 hrd4 hB hb2 hB2 hb3 hB3 Hown2 Hown3
    go_wp2_with fail
    refine (specTableOk _ _ _).mono ?_
    rintro e w' ⟨rfl, rfl⟩
    rw [Hv.out]
    generalize w3.drewN n4 = wr at *
    obtain ⟨ao, cap, rfl, hl, hm, hc0⟩ := Hrd4.out
    have hc := Lib.hid hc0; clear hc0
    unfold maxLen at hm
    go_wp2_with fail
    go_loop [6] (fun i => ∃ k : Nat, k ≤ zs.length ∧ i = .int .i64 k) (fun i => zs.length - (intOf i).toNat)
    case atStart => exact ⟨0, Nat.zero_le _, rfl⟩
    case round =>
      obtain ⟨k, hk, rfl⟩ := hrel
      by_cases hlt : k < zs.length
      · obtain ⟨b, off, rfl, hb, hcell⟩ := hc.out k hlt
        have hw := Lib.hid (Hall.out k hlt)
        generalize zs.getD k 0 = z at *
        go_wp2_with fail
        refine (implWorldOk _ _ _).mono ?_
        rintro e w' ⟨rfl, rfl⟩
        rw [hw.out]
        go_wp2
        go_round
        case rel => exact ⟨k + 1, by omega, by go_num⟩
        case measure => simp [intOf]; omega
      · go_wp2_with fail
        refine (ascend_yes zs _ _ _ Hrd4.out Hasc).mono ?_
        rintro e w5 ⟨rfl, n5, rfl⟩
        go_wp2_with fail
        refine (implTableOfWorlds p zs _ _ _ (Hrd4.out.below (w' := wr.drewN n5) (fun _ _ => rfl))).mono ?_
        rintro e w6 ⟨rfl, rfl⟩
        rw [Htow.out]
        go_wp2
        go_ret
        exact ⟨rfl, below_drewN hB4 _⟩
  · have Hv : Hid (tOk p t = false) := by simpa [Hid] using hv
    clear hv
    rw [wlp_no Hv.out] at hrd2
    obtain ⟨ao, cap, rfl, hl, hm, _⟩ := hrd2
    have hB4 : Below w.heap.size w (w3.drewN n4) := below_drewN hB3 n4
    clear Hown2 Hown3
    go_wp2_with fail
    refine (specTableOk _ _ _).mono ?_
    rintro e w' ⟨rfl, rfl⟩
    rw [Hv.out]
    go_wp2_with fail
    refine (alive _).mono ?_
    rintro e w' ⟨rfl, rfl⟩
    go_wp2
    go_ret
    exact ⟨rfl, hB4⟩

set_option maxRecDepth 100000 in
theorem lifted (os : Os) (started : os.Started) (H : Type) (enc : TypeId × Value → H) :
    ReturnsInHanded {} Try.checked os 14 .any (Rows.fnWorldsInSpec.pre6 enc Try.prog Try.f14 Rows.fnWorldsInRow.domain false) (Rows.fnWorldsInSpec.post enc Try.prog Try.f14 false true false false) := by
  refine returnsInHanded_of_change (C := Try.checked) Try.own started (by kernel_rfl) Try.func14
    (ChangeSpec.witness6 (enc := enc) (C := Try.checked) false ⟨#[], #[.slice none 0 0], []⟩ 8 (by kernel_rfl) (by kernel_rfl) (by kernel_rfl) (by kernel_rfl)) ?_
  intro W base args ds gs before hval0 hW hcnd _
  have hval : ∀ (j : Nat) t v, Try.f14.params[j]? = some t → args[j]? = some v → Value.okWide Try.prog W .any base t v := hval0
  have hW' := hW
  obtain ⟨p, q, hA0, hV, rfl, hfz, hnd⟩ := hW
  have hA : DataW.TrodAll enc Try.prog W 0 (fun _ => true) true Try.f14.params.toList args.toList ds p := hA0
  rw [Try.params14] at hA hval
  obtain ⟨v0, vs0, d0, ds0, p0, q0, hargs, rfl, rfl, h0, r0⟩ := trodAll_cons hA
  obtain ⟨rfl, rfl, rfl⟩ := trodAll_nil r0
  obtain rfl : args = #[v0] := by cases args; simp_all
  obtain ⟨rfl, rfl⟩ := trodVars_none hV
  obtain ⟨a0, len0, cap0, rfl⟩ := okWide_slice Try.underlying31 (hval 0 31 v0 rfl rfl)
  have k0 := h0
  have lt0 : ∀ x ∈ p0, x.block < W.heap.size := by obtain ⟨m, hm⟩ := k0; exact DataW.trod_lt m _ _ _ hm
  obtain ⟨z0, w0⟩ : ∃ zs, IsRow .u8 W a0 len0 cap0 zs := by
    obtain ⟨fuel, hf⟩ := h0
    rcases open_ints Try.underlying31 Try.underlying5 (by kernel_rfl) hf with ⟨hcs, _⟩ | ⟨x, l, c, zs, hcs, _, hl, hm, hz, _, hcell, hwz⟩
    · simp [Value.cells] at hcs
      obtain ⟨rfl, rfl, rfl⟩ := hcs
      exact ⟨[], .inl ⟨rfl, rfl, rfl, rfl⟩⟩
    · simp [Value.cells] at hcs
      obtain ⟨rfl, rfl, rfl⟩ := hcs
      exact ⟨zs, .inr ⟨_, rfl, hl, hm, by simpa using hz, hcell, hwz⟩⟩
  clear hA0 hval0
  refine (walk _ _ W (RdBytes.of_row w0)).mono fun e W' ⟨he, bel⟩ => ?_
  subst he
  exact ⟨_, rfl, _, _, _, [], _, [], hW', trodAll_mk1 (shut_bool Try.underlying4 _), (trodAll_cons_mk (Below.trod Try.laidOut (by kernel_rfl) (of_decide_eq_true (by kernel_rfl)) k0 bel lt0) trodAll_mk0), rfl, bel.frame _, fun h => by cases h⟩

theorem closed : joinedFacts Try.pinned.checked.prog 14 Try.f14 Rows.fnWorldsInSpec Rows.fnWorldsInRow = true := by
  unfold joinedFacts
  exact (and_tt (and_tt (and_tt (and_tt (and_tt (and_tt (and_tt (and_tt (and_tt (and_tt (and_tt (and_tt (and_tt (and_tt (and_tt (and_tt (and_tt (and_tt (and_tt (and_tt (and_tt (and_tt (and_tt (and_tt (and_tt (and_tt (and_tt (and_tt (and_tt (and_tt (and_tt (by kernel_rfl) (by kernel_rfl)) (by kernel_rfl)) (by kernel_rfl)) (by kernel_rfl)) (by kernel_rfl)) (by kernel_rfl)) (by kernel_rfl)) (by kernel_rfl)) (by kernel_rfl)) (by kernel_rfl)) (by kernel_rfl)) (by kernel_rfl)) (by kernel_rfl)) (by kernel_rfl)) (by kernel_rfl)) (by kernel_rfl)) (by kernel_rfl)) (by kernel_rfl)) (by kernel_rfl)) (by kernel_rfl)) (by kernel_rfl)) (by kernel_rfl)) (by kernel_rfl)) (by kernel_rfl)) Try.mayEnter0) (lifted_tt Try.lifts0 rfl)) (make_tt Try.make0 rfl)) (by kernel_rfl)) (by kernel_rfl)) (by kernel_rfl)) (by kernel_rfl))
theorem over : Rows.fnWorldsInRow.holds Try.pinned (OpenSpec.ofChange Rows.fnWorldsInSpec) :=
  OpenClaim.holds_of_wide 14 Try.f14 rfl rfl rfl rfl rfl rfl rfl ⟨rfl, rfl, rfl, rfl, rfl⟩ rfl rfl rfl rfl rfl (by kernel_rfl) Try.func14 closed
    (of_decide_eq_true (by kernel_rfl)) (by unfold Func.isWrapper; first | (rw [if_pos (by decide +kernel)]; kernel_rfl) | (rw [if_neg (by decide +kernel)]; exact ⟨rfl, rfl⟩))
    (fun os started H enc _ => lifted os started H enc)

theorem proved : Rows.FnWorldsInSaid := over
end Go.Proofs.Ytbihchdfikbllaa.fnWorldsIn


/- Chapter 1's law of opposite tables. It answers true, whatever the code. No condition. -/
import Derived.Test.YtbihchdfikbllaaLawsT
namespace Go.Proofs.Ytbihchdfikbllaa
open Go.RowKit

theorem count_rev (f : Nat → Bool) : ∀ n, ((List.range n).filter fun i => f (n - 1 - i)).length = ((List.range n).filter f).length := by
  intro n
  induction n with
  | zero => rfl
  | succ n ih =>
    have h1 : ((List.range (n + 1)).filter fun i => f (n + 1 - 1 - i)).length = (if f n = true then 1 else 0) + ((List.range n).filter fun i => f (n - 1 - i)).length := by
      rw [List.range_succ_eq_map, List.filter_cons, List.filter_map]
      have e : ((fun i => f (n + 1 - 1 - i)) ∘ Nat.succ) = fun i => f (n - 1 - i) := by
        funext i; show f (n + 1 - 1 - (i + 1)) = _; congr 1; omega
      rw [e, show n + 1 - 1 - 0 = n from by omega]
      split
      · rw [List.length_cons, List.length_map]; omega
      · rw [List.length_map]; omega
    have h2 : ((List.range (n + 1)).filter f).length = ((List.range n).filter f).length + (if f n = true then 1 else 0) := by
      rw [List.range_succ, List.filter_append, List.length_append]
      by_cases h : f n = true
      · simp [h]
      · simp [h]
    rw [h1, h2, ih]; omega
theorem turned_bit {T N j : Nat} (hj : j < N) : (turned T N N).testBit j = T.testBit (N - 1 - j) := by
  unfold turned
  rw [tabOf_bit, Bool.eq_iff_iff]
  simp only [decide_eq_true_eq, List.mem_map, wl_mem]
  constructor
  · rintro ⟨i, ⟨hi, hb⟩, rfl⟩
    rwa [show N - 1 - (N - 1 - i) = i from by omega]
  · intro h
    exact ⟨N - 1 - j, ⟨by omega, h⟩, by omega⟩
theorem turned_turned {T N : Nat} (hT : T < 2 ^ N) (hN : 0 < N) : turned (turned T N N) N N = T := by
  refine bit_ext (turned_lt (Nat.le_refl _) hN) hT fun j hj => ?_
  rw [turned_bit hj, turned_bit (by omega)]
  rw [show N - 1 - (N - 1 - j) = j from by omega]
theorem turned_len (T N : Nat) : (wl (turned T N N) N).length = (wl T N).length := by
  unfold wl
  rw [← count_rev (fun i => T.testBit i) N]
  congr 1
  refine List.filter_congr fun i hi => ?_
  exact turned_bit (by simpa using hi)
theorem opp_mem {T N i : Nat} (hi : i ∈ wl T N) : N - 1 - i ∈ wl (turned T N N) N := by
  obtain ⟨h1, h2⟩ := wl_mem.1 hi
  refine wl_mem.2 ⟨by omega, ?_⟩
  rw [turned_bit (by omega), show N - 1 - (N - 1 - i) = i from by omega]
  exact h2
theorem N_eq {p : Int} {N : Nat} (hN : (N : Int) = 2 ^ p.toNat) : N = 2 ^ p.toNat := by
  have : ((2 ^ p.toNat : Nat) : Int) = 2 ^ p.toNat := by simp
  omega
theorem tOk_of {p : Int} {T N : Nat} (h1 : 1 ≤ p) (h2 : p ≤ 4) (hN : (N : Int) = 2 ^ p.toNat) (hT : T < 2 ^ N) : tOk p T = true := by
  refine tOk_iff.2 ⟨h1, h2, by omega, ?_⟩
  rw [N_eq hN] at hT
  exact_mod_cast hT
end Go.Proofs.Ytbihchdfikbllaa

namespace Go.Proofs.Ytbihchdfikbllaa.fnOppositeTable
open Go.ChangeShapes Go.WideShapes Go.ChangeAt Go.RowKit
open Go.ChangeMaps (open_string shut_string)
set_option linter.unusedVariables false
attribute [local irreducible] heads turned tabOf wl
set_option maxHeartbeats 1000000 in
theorem walk (a0 : Value) (n0 : Nat) (w : World) (w0 : RdBytes w w.heap.size a0 n0) :
    Calls Try.prog 16 #[a0] w fun e w' => e = .returned (.bool true) ∧ Below w.heap.size w w' := by
  have hr := w0
  by_cases hbig : n0 ≤ 1048576
  case neg =>
    obtain ⟨ao, cap, rfl, hl, hm, hc⟩ := w0
    have hbig' := code_big hbig
    unfold maxLen at hm
    clear hc hr hbig
    go_enter Try.func16, Try.ntmps16
    go_wp2
    go_ret
    exact ⟨rfl, Below.refl _ _⟩
  have hbig' : (n0 : Int) ≤ 1048576 := by omega
  clear hbig
  obtain ⟨ao, cap, rfl, hl, hm, hc⟩ := w0
  have Hr := Lib.hid hr
  clear hc hr hl hm
  go_enter Try.func16, Try.ntmps16
  go_wp2_with fail
  refine (drawOppositeTable _ _ _ Hr.out).mono ?_
  rintro e w1 ⟨p, t, ⟨hp0, hp1, hx0, hx1⟩, rfl, hB⟩
  clear hx0 hx1
  by_cases hv : tOk p t = true
  · obtain ⟨h1, h2, h3, h65⟩ := tOk_lt hv
    clear h65
    obtain ⟨T, rfl⟩ := Int.eq_ofNat_of_zero_le h3
    have HN := cnt_of p
    obtain ⟨hN2, hN16⟩ := two_pow_N h1 h2
    have hwlp := wlp_yes hv
    have hopt := opt_yes hv
    rw [Int.toNat_natCast] at hwlp
    generalize 2 ^ p.toNat = N at *
    have HT := Lib.hid (tOk_ltN hv HN.out)
    have HU : Hid (turned T N N < 2 ^ N) := turned_lt (Nat.le_refl _) (by omega)
    have hvU : tOk p (turned T N N : Nat) = true := tOk_of h1 h2 HN.out HU.out
    have hwlpU := wlp_yes hvU
    have hoptU := opt_yes hvU
    rw [Int.toNat_natCast] at hwlpU
    rw [← N_eq HN.out] at hwlpU hoptU
    rw [turned_turned HT.out (by omega)] at hoptU
    have Hmem : Hid (∀ j, (hj : j < (wl T N).length) → N - 1 - (wl T N)[j] ∈ wl (turned T N N) N) := fun j hj => opp_mem (List.getElem_mem hj)
    have Hw : Hid (∀ j, (hj : j < (wl T N).length) → (wl T N)[j] < N) := fun j hj => (wl_mem.1 (List.getElem_mem hj)).1
    have Hlen := Lib.hid (turned_len T N)
    have Hv := Lib.hid hv; have HvU := Lib.hid hvU; have Hwlp := Lib.hid hwlp; have Hopt := Lib.hid hopt; have HwlpU := Lib.hid hwlpU; have HoptU := Lib.hid hoptU
    clear hv hvU hwlp hopt hwlpU hoptU h3
    generalize turned T N N = U at *
    generalize wl T N = l at *
    generalize wl U N = m at *
    have hU0 : (0 : Int) ≤ (U : Int) := by omega
    go_wp2_with fail
    refine (implOppositeTable _ _ _).mono ?_
    rintro e w2 ⟨rfl, hb2⟩
    have hB2 := hB.trans (hb2.mono hB.size)
    rw [Hopt.out]
    go_wp2_with fail
    refine (specOppositeTable _ _ _).mono ?_
    rintro e w3 ⟨rfl, hb3⟩
    have hB3 := hB2.trans (hb3.mono hB2.size)
    rw [Hopt.out]
    go_wp2_with fail
    refine (implWorldsIn _ _ _).mono ?_
    rintro e w4 ⟨va, rfl, hown4, hb4⟩
    have hB4 := hB3.trans (hb4.mono hB3.size)
    rw [Hwlp.out, vals_nums, ← nums_length] at hown4
    have Hrd4 := Lib.hid (RdInts.of_own hown4); clear hown4
    go_wp2_with fail
    refine (implWorldsIn _ _ _).mono ?_
    rintro e w5 ⟨vb, rfl, hown5, hb5⟩
    have hB5 := hB4.trans (hb5.mono hB4.size)
    rw [HwlpU.out, vals_nums, ← nums_length] at hown5
    have Hrd5 := Lib.hid (RdInts.of_own hown5); clear hown5
    have Hrd4' := Lib.hid (Hrd4.out.below (w' := w5) (below_block hb5 (Nat.le_refl _)))
    clear hB hb2 hB2 hb3 hB3 hb4 hB4 Hrd4
    obtain ⟨ao, acap, rfl, hal, ham, hac0⟩ := Hrd4'.out
    obtain ⟨bo, bcap, rfl, hbl, hbm, _⟩ := Hrd5.out
    rw [nums_length] at hal hbl hac0
    have hac := Lib.hid hac0; clear hac0
    unfold maxLen at ham hbm
    have hln := nums_length l
    have hlm := nums_length m
    rw [Hlen.out] at hlm hbl
    generalize (nums l).length = A at *
    generalize (nums m).length = B at *
    subst hln hlm
    go_wp2_with fail
    go_loop [8] (fun i => ∃ k : Nat, k ≤ l.length ∧ i = .int .i64 k) (fun i => l.length - (intOf i).toNat)
    case atStart => exact ⟨0, Nat.zero_le _, rfl⟩
    case round =>
      obtain ⟨k, hk, rfl⟩ := hrel
      by_cases hlt : k < l.length
      · obtain ⟨b, off, rfl, hb, hcell⟩ := hac.out k hlt
        rw [nums_getD hlt] at hcell
        have hxm := Hmem.out k hlt
        have hxN := Hw.out k hlt
        have Hwx : Hid (wOk p ((l[k] : Nat) : Int) = true) := wOk_of h1 h2 HN.out (by omega) (by omega)
        have Hin : Hid (decide (((N : Int) - 1 - (l[k] : Nat)) ∈ nums m) = true) := by
          unfold Hid
          rw [decide_eq_true_eq]
          refine List.mem_map.2 ⟨N - 1 - l[k], hxm, ?_⟩
          omega
        clear hxm
        generalize l[k] = x at *
        go_wp2_with fail
        refine (implOppositeWorld_yes p x N Hwx HN _).mono ?_
        rintro e w' ⟨rfl, rfl⟩
        have hy0 : 0 ≤ (N : Int) - 1 - (x : Int) := by omega
        generalize (N : Int) - 1 - (x : Int) = y at *
        go_wp2_with fail
        refine (hasInt (nums m) y _ _ _ Hrd5.out).mono ?_
        rintro e w' ⟨rfl, rfl⟩
        rw [Hin.out]
        go_wp2
        go_round
        case rel => exact ⟨k + 1, by omega, by go_num⟩
        case measure => simp [intOf]; omega
      · go_wp2_with fail
        refine (implTableOk _ _ _).mono ?_
        rintro e w' ⟨rfl, rfl⟩
        rw [HvU.out]
        go_wp2_with fail
        refine (implOppositeTable _ _ _).mono ?_
        rintro e w6 ⟨rfl, hb6⟩
        have hB6 := hB5.trans (hb6.mono hB5.size)
        rw [HoptU.out]
        go_wp2
        go_ret
        exact ⟨rfl, hB6⟩
  · have Hv : Hid (tOk p t = false) := by simpa [Hid] using hv
    clear hv
    have Hopt := Lib.hid (opt_no Hv.out)
    go_wp2_with fail
    refine (implOppositeTable _ _ _).mono ?_
    rintro e w2 ⟨rfl, hb2⟩
    have hB2 := hB.trans (hb2.mono hB.size)
    rw [Hopt.out]
    go_wp2_with fail
    refine (specOppositeTable _ _ _).mono ?_
    rintro e w3 ⟨rfl, hb3⟩
    have hB3 := hB2.trans (hb3.mono hB2.size)
    rw [Hopt.out]
    go_wp2_with fail
    refine (implTableOk _ _ _).mono ?_
    rintro e w' ⟨rfl, rfl⟩
    rw [Hv.out]
    go_wp2_with fail
    refine (alive _).mono ?_
    rintro e w' ⟨rfl, rfl⟩
    go_wp2
    go_ret
    exact ⟨rfl, hB3⟩

set_option maxRecDepth 100000 in
theorem lifted (os : Os) (started : os.Started) (H : Type) (enc : TypeId × Value → H) :
    ReturnsInHanded {} Try.checked os 16 .any (Rows.fnOppositeTableSpec.pre6 enc Try.prog Try.f16 Rows.fnOppositeTableRow.domain false) (Rows.fnOppositeTableSpec.post enc Try.prog Try.f16 false true false false) := by
  refine returnsInHanded_of_change (C := Try.checked) Try.own started (by kernel_rfl) Try.func16
    (ChangeSpec.witness6 (enc := enc) (C := Try.checked) false ⟨#[], #[.slice none 0 0], []⟩ 8 (by kernel_rfl) (by kernel_rfl) (by kernel_rfl) (by kernel_rfl)) ?_
  intro W base args ds gs before hval0 hW hcnd _
  have hval : ∀ (j : Nat) t v, Try.f16.params[j]? = some t → args[j]? = some v → Value.okWide Try.prog W .any base t v := hval0
  have hW' := hW
  obtain ⟨p, q, hA0, hV, rfl, hfz, hnd⟩ := hW
  have hA : DataW.TrodAll enc Try.prog W 0 (fun _ => true) true Try.f16.params.toList args.toList ds p := hA0
  rw [Try.params16] at hA hval
  obtain ⟨v0, vs0, d0, ds0, p0, q0, hargs, rfl, rfl, h0, r0⟩ := trodAll_cons hA
  obtain ⟨rfl, rfl, rfl⟩ := trodAll_nil r0
  obtain rfl : args = #[v0] := by cases args; simp_all
  obtain ⟨rfl, rfl⟩ := trodVars_none hV
  obtain ⟨a0, len0, cap0, rfl⟩ := okWide_slice Try.underlying31 (hval 0 31 v0 rfl rfl)
  have k0 := h0
  have lt0 : ∀ x ∈ p0, x.block < W.heap.size := by obtain ⟨m, hm⟩ := k0; exact DataW.trod_lt m _ _ _ hm
  obtain ⟨z0, w0⟩ : ∃ zs, IsRow .u8 W a0 len0 cap0 zs := by
    obtain ⟨fuel, hf⟩ := h0
    rcases open_ints Try.underlying31 Try.underlying5 (by kernel_rfl) hf with ⟨hcs, _⟩ | ⟨x, l, c, zs, hcs, _, hl, hm, hz, _, hcell, hwz⟩
    · simp [Value.cells] at hcs
      obtain ⟨rfl, rfl, rfl⟩ := hcs
      exact ⟨[], .inl ⟨rfl, rfl, rfl, rfl⟩⟩
    · simp [Value.cells] at hcs
      obtain ⟨rfl, rfl, rfl⟩ := hcs
      exact ⟨zs, .inr ⟨_, rfl, hl, hm, by simpa using hz, hcell, hwz⟩⟩
  clear hA0 hval0
  refine (walk _ _ W (RdBytes.of_row w0)).mono fun e W' ⟨he, bel⟩ => ?_
  subst he
  exact ⟨_, rfl, _, _, _, [], _, [], hW', trodAll_mk1 (shut_bool Try.underlying4 _), (trodAll_cons_mk (Below.trod Try.laidOut (by kernel_rfl) (of_decide_eq_true (by kernel_rfl)) k0 bel lt0) trodAll_mk0), rfl, bel.frame _, fun h => by cases h⟩

theorem closed : joinedFacts Try.pinned.checked.prog 16 Try.f16 Rows.fnOppositeTableSpec Rows.fnOppositeTableRow = true := by
  unfold joinedFacts
  exact (and_tt (and_tt (and_tt (and_tt (and_tt (and_tt (and_tt (and_tt (and_tt (and_tt (and_tt (and_tt (and_tt (and_tt (and_tt (and_tt (and_tt (and_tt (and_tt (and_tt (and_tt (and_tt (and_tt (and_tt (and_tt (and_tt (and_tt (and_tt (and_tt (and_tt (and_tt (by kernel_rfl) (by kernel_rfl)) (by kernel_rfl)) (by kernel_rfl)) (by kernel_rfl)) (by kernel_rfl)) (by kernel_rfl)) (by kernel_rfl)) (by kernel_rfl)) (by kernel_rfl)) (by kernel_rfl)) (by kernel_rfl)) (by kernel_rfl)) (by kernel_rfl)) (by kernel_rfl)) (by kernel_rfl)) (by kernel_rfl)) (by kernel_rfl)) (by kernel_rfl)) (by kernel_rfl)) (by kernel_rfl)) (by kernel_rfl)) (by kernel_rfl)) (by kernel_rfl)) (by kernel_rfl)) Try.mayEnter0) (lifted_tt Try.lifts0 rfl)) (make_tt Try.make0 rfl)) (by kernel_rfl)) (by kernel_rfl)) (by kernel_rfl)) (by kernel_rfl))
theorem over : Rows.fnOppositeTableRow.holds Try.pinned (OpenSpec.ofChange Rows.fnOppositeTableSpec) :=
  OpenClaim.holds_of_wide 16 Try.f16 rfl rfl rfl rfl rfl rfl rfl ⟨rfl, rfl, rfl, rfl, rfl⟩ rfl rfl rfl rfl rfl (by kernel_rfl) Try.func16 closed
    (of_decide_eq_true (by kernel_rfl)) (by unfold Func.isWrapper; first | (rw [if_pos (by decide +kernel)]; kernel_rfl) | (rw [if_neg (by decide +kernel)]; exact ⟨rfl, rfl⟩))
    (fun os started H enc _ => lifted os started H enc)

theorem proved : Rows.FnOppositeTableSaid := over
end Go.Proofs.Ytbihchdfikbllaa.fnOppositeTable


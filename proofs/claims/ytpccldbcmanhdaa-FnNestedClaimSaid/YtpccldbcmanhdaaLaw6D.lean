/- A law of stage 6: claims of claims are equivalences of three. It answers true, whatever the code. No condition. -/
import Derived.Test.YtpccldbcmanhdaaDrawO
import Derived.Test.YtpccldbcmanhdaaDrawH
import Derived.Test.YtpccldbcmanhdaaOddI
import Derived.Test.YtpccldbcmanhdaaClaimI
import Derived.Test.YtpccldbcmanhdaaClaimE
import Derived.Test.YtpccldbcmanhdaaLawsA
import Derived.Deep.RegionHeld3
import Derived.Deep.Cut
namespace Go.Proofs.Ytpccldbcmanhdaa
open Go.RowKit
theorem nest_I64 {p x k kn : Int} {ms ns : List (Int × Int)} (hi : I64s ms) (h : nestV p x (k, ms) = (kn, ns)) : I64s ns := by
  unfold nestV at h
  split at h
  · rename_i ho
    have hc := (nest_both ho).1
    cases h
    have := I64s_ctermV (p := p) (k := k) hi
    rw [ctermV_yes hc] at this
    exact this
  · cases h
    intro m hm; simp at hm
theorem nest_zero {p x k kn : Int} {ms ns : List (Int × Int)} (ho : nestOk p x (k, ms) = false) (h : nestV p x (k, ms) = (kn, ns)) : kn = 0 ∧ ns = [] := by
  unfold nestV at h
  rw [ho] at h
  cases h
  exact ⟨rfl, rfl⟩
theorem nest_facts {p x k kn : Int} {ms ns : List (Int × Int)} (ho : nestOk p x (k, ms) = true) (h : nestV p x (k, ms) = (kn, ns)) :
    ∃ P K X : Nat, p = P ∧ k = K ∧ x = X ∧ (1 ≤ P ∧ P ≤ 4) ∧ K < 4 ∧ X < 4 ∧ kn = x ∧ claimOk p (x, ns) = true ∧ (∀ W : Nat, W < 2 ^ P → mayV p (x, ns) W = ((W.testBit X == W.testBit K) == holdsV p ms W)) ∧ True := by
  unfold nestV at h
  rw [ho] at h
  obtain ⟨h1, h2⟩ := nest_both ho
  obtain ⟨hp1, hp4⟩ := p_of_claim h1
  obtain ⟨k1, k2, kt, _⟩ := claimOk_iff.1 h1
  obtain ⟨x1, x2, _, _⟩ := claimOk_iff.1 h2
  dsimp only [nestL] at x1 x2 k1 k2 kt
  obtain ⟨P, rfl⟩ := Int.eq_ofNat_of_zero_le (show 0 ≤ p by omega)
  obtain ⟨K, rfl⟩ := Int.eq_ofNat_of_zero_le k1
  obtain ⟨X, rfl⟩ := Int.eq_ofNat_of_zero_le x1
  cases h
  refine ⟨P, K, X, rfl, rfl, rfl, by omega, by omega, by omega, rfl, h2, fun W hW => ?_, trivial⟩
  have hw : wOk (P : Int) W = true := wOk_iff.2 ⟨hp1, hp4, by omega, by rw [Int.toNat_natCast]; exact_mod_cast hW⟩
  have e1 : mayV (P : Int) ((X : Int), ctermL ((K : Int), ms)) W = mayT (P : Int) (nestL X (K, ms)) W := by
    have := mayV_yes (p := (P : Int)) (c := ((X : Int), ctermL ((K : Int), ms))) h2 hw
    rw [this, Int.toNat_natCast]; rfl
  rw [e1, nest_may ho, Int.toNat_natCast, Int.toNat_natCast]
  unfold holdsV
  rw [kt, hw, Int.toNat_natCast, Bool.true_and, Bool.true_and]
end Go.Proofs.Ytpccldbcmanhdaa
namespace Go.Proofs.Ytpccldbcmanhdaa.fnNestedClaim
open Go.ChangeShapes Go.WideShapes Go.ChangeAt Go.RowKit Go.Joins
attribute [local irreducible] holds tabN tabV holdsV sameV followsV alwaysV matterV mirV mirOk mcells tmOf claimOk mayT mayV ctabV ctabN storyV storyOk storyN storyT ctermV ctermL denyV denyOk ccells sayV neverV alwsV nestOk nestV kindOk kindV
open Go.ChangeMaps (open_string shut_string)
set_option linter.unusedVariables false
set_option maxRecDepth 100000 in
set_option maxHeartbeats 4000000 in
theorem walk (a0 : Value) (n0 : Nat) (w : World) (w0 : RdBytes w w.heap.size a0 n0) :
    Calls Try.prog 6 #[a0] w fun e w' => e = .returned (.bool true) ∧ Below w.heap.size w w' := by
  have hr := w0
  by_cases hbig : n0 ≤ 1048576
  case neg =>
    obtain ⟨ao, cap, rfl, hl, hm, hc⟩ := w0
    have hbig' := code_big hbig
    unfold maxLen at hm
    clear hc hr hbig
    go_enter Try.func6, Try.ntmps6
    go_wp2
    go_ret
    exact ⟨rfl, Below.refl _ _⟩
  have hbig' : (n0 : Int) ≤ 1048576 := by omega
  clear hbig
  obtain ⟨ao, cap, rfl, hl, hm, hc⟩ := w0
  have Hr := Lib.hid hr
  clear hc hr hl hm
  go_enter Try.func6, Try.ntmps6
  go_wp2_with fail
  refine (drawNestedClaim _ _ _ Hr.out).mono ?_
  rintro e w1 ⟨p, k, g, cp, ms, x, hp1, hp4, rfl, hown, hi, hn20, hk1, hk4, hx0, hx100, hB1⟩
  have Hi := Lib.hid hi
  go_upto_region 4 with fail
  obtain ⟨w2, hw2, hx2, hb2, hsz2⟩ := Box.new w1 (.int .i64 k) (.slice (some ⟨g, 0, none⟩) ms.length cp) TC
  have HO2 := Lib.hid (show w2.ownsRow w.heap.size TM 2 (.slice (some ⟨g, 0, none⟩) ms.length cp) ms.length (mcells ms) by rw [hw2]; exact hown.alloc _)
  have hB2 : Below w.heap.size w w2 := hB1.trans (hb2.mono hB1.size)
  have HX2 := Lib.hid hx2
  have aX2 := HX2.out.1
  have bX2 := HX2.out.2.1
  rw [← hw2]
  clear hw2 hown hi hb2 hx2 hB1
  obtain ⟨kn, ns, hnv⟩ : ∃ kn ns, nestV p x (k, ms) = (kn, ns) := ⟨_, _, rfl⟩
  have him := fun B u W h h2 => implNestedClaim p x k ms B u W h h2
  have hsp := fun B u W h h2 => specNestedClaim p x k ms B u W h h2
  have Hns := Lib.hid (nest_I64 (p := p) (x := x) Hi.out hnv)
  have Hno := Lib.hid (fun (h : nestOk p x (k, ms) = false) => nest_zero (p := p) (x := x) (k := k) (ms := ms) h hnv)
  have Hyes := Lib.hid (fun (h : nestOk p x (k, ms) = true) => nest_facts (p := p) (x := x) (k := k) (ms := ms) h hnv)
  rw [hnv] at him hsp
  generalize nestOk p x (k, ms) = o at *
  have Him := Lib.hid him
  have Hsp := Lib.hid hsp
  clear him hsp hnv
  go_wp2_with fail
  refine (Him.out _ _ _ (RdMarks.of_own HO2.out Hi.out) (Nat.le_refl _)).mono ?_
  rintro e w3 ⟨vA, rfl, hoA, hb3⟩
  have HX3 := Lib.hid (HX2.out.below hb3)
  have aX3 := HX3.out.1
  have bX3 := HX3.out.2.1
  have HO3 := Lib.hid (own_below HO2.out hb3)
  have hB3 : Below w.heap.size w w3 := hB2.trans (hb3.mono hB2.size)
  obtain ⟨fA, gA, hfA⟩ := own_len hoA
  subst hfA
  clear hb3 aX2 bX2
  go_upto_region 5 with fail
  obtain ⟨w4, hw4, hn4, hb4, hsz4⟩ := Box.new w3 (.int .i64 kn) (.slice fA ns.length gA) TC
  have HX4 := Lib.hid (HX3.out.below hb4)
  have aX4 := HX4.out.1
  have bX4 := HX4.out.2.1
  have HO4 := Lib.hid (own_below HO3.out hb4)
  have hB4 : Below w.heap.size w w4 := hB3.trans (hb4.mono hB3.size)
  have HRA4 := Lib.hid (own_below hoA hb4)
  have HA4 := Lib.hid hn4
  have aA4 := HA4.out.1
  have bA4 := HA4.out.2.1
  rw [← hw4]
  clear hw4 hn4 hb4 hoA aX3 bX3
  go_wp2_with fail
  refine (Hsp.out _ _ _ (RdMarks.of_own HO4.out Hi.out) (Nat.le_refl _)).mono ?_
  rintro e w5 ⟨vB, rfl, hoB, hb5⟩
  have HX5 := Lib.hid (HX4.out.below hb5)
  have aX5 := HX5.out.1
  have bX5 := HX5.out.2.1
  have HA5 := Lib.hid (HA4.out.below hb5)
  have aA5 := HA5.out.1
  have bA5 := HA5.out.2.1
  have HO5 := Lib.hid (own_below HO4.out hb5)
  have HRA5 := Lib.hid (own_below HRA4.out hb5)
  have hB5 : Below w.heap.size w w5 := hB4.trans (hb5.mono hB4.size)
  obtain ⟨fB, gB, hfB⟩ := own_len hoB
  subst hfB
  clear hb5 aX4 bX4 aA4 bA4
  go_upto_region 6 with fail
  obtain ⟨w6, hw6, hn6, hb6, hsz6⟩ := Box.new w5 (.int .i64 kn) (.slice fB ns.length gB) TC
  have HX6 := Lib.hid (HX5.out.below hb6)
  have aX6 := HX6.out.1
  have bX6 := HX6.out.2.1
  have HA6 := Lib.hid (HA5.out.below hb6)
  have aA6 := HA6.out.1
  have bA6 := HA6.out.2.1
  have HO6 := Lib.hid (own_below HO5.out hb6)
  have HRA6 := Lib.hid (own_below HRA5.out hb6)
  have HRB6 := Lib.hid (own_below hoB hb6)
  have hB6 : Below w.heap.size w w6 := hB5.trans (hb6.mono hB5.size)
  have HBB6 := Lib.hid hn6
  have aB6 := HBB6.out.1
  have bB6 := HBB6.out.2.1
  rw [← hw6]
  clear hw6 hn6 hb6 hoB aX5 bX5 aA5 bA5
  go_wp2_with fail
  refine (sameClaim kn ns _ _ _ _ _ (RdMarks.of_own HRA6.out Hns.out) (RdMarks.of_own HRB6.out Hns.out) (Nat.le_refl _) (Nat.le_refl _)).mono ?_
  rintro e w7 ⟨rfl, hb7⟩
  have HX7 := Lib.hid (HX6.out.below hb7)
  have aX7 := HX7.out.1
  have bX7 := HX7.out.2.1
  have HA7 := Lib.hid (HA6.out.below hb7)
  have aA7 := HA7.out.1
  have bA7 := HA7.out.2.1
  have HO7 := Lib.hid (own_below HO6.out hb7)
  have HRA7 := Lib.hid (own_below HRA6.out hb7)
  have hB7 : Below w.heap.size w w7 := hB6.trans (hb7.mono hB6.size)
  clear hb7 aX6 bX6 aA6 bA6 aB6 bB6
  cases o with
  | false =>
    obtain ⟨hkn, hns⟩ := Hno.out rfl
    subst hkn
    have hns0 : (ns.length : Int) = 0 := by rw [hns]; rfl
    clear hns Hno Hyes
    go_wp2_with fail
    refine (alive _).mono ?_
    rintro e w' ⟨rfl, rfl⟩
    go_wp2
    go_ret
    exact ⟨rfl, hB7⟩
  | true =>
    obtain ⟨P, K, X, rfl, rfl, rfl, hP, hK, hX, hkn, hcx, hmay, hho⟩ := Hyes.out rfl
    subst hkn
    have hcl := fun B u W h h2 => implClaimOk P X ns B u W h h2
    rw [hcx] at hcl
    have Hcl := Lib.hid hcl
    have Hmay := Lib.hid hmay
    have Hho := Lib.hid hho
    obtain ⟨N, hN⟩ : ∃ N : Nat, N = 2 ^ P := ⟨_, rfl⟩
    have hsh : wrap64 (2 ^ P) = (N : Int) := by
      have h : P = 1 ∨ P = 2 ∨ P = 3 ∨ P = 4 := by omega
      rw [hN]
      rcases h with rfl | rfl | rfl | rfl <;> decide +kernel
    have hN16 : N ≤ 16 := by rw [hN]; exact two16 (by omega)
    have hminP : min P 64 = P := by omega
    have hminX : min X 64 = X := by omega
    have hminK : min K 64 = K := by omega
    have HN := Lib.hid hN
    clear hN hcl hcx hmay hho Hno Hyes
    go_wp2
    go_loopw [10, 11] (fun i _ wr => ∃ W : Nat, W ≤ N ∧ i = .int .i64 W ∧ Below w7.heap.size w7 wr) (fun i _ _ => N - (intOf i).toNat)
    case atStart => exact ⟨0, Nat.zero_le _, rfl, Below.refl _ _⟩
    case round =>
      obtain ⟨W, hW, rfl, hbr⟩ := hrel
      have HXr := Lib.hid (HX7.out.below hbr)
      have HAr := Lib.hid (HA7.out.below hbr)
      have HOr := Lib.hid (own_below HO7.out hbr)
      have HRr := Lib.hid (own_below HRA7.out hbr)
      have HBr := Lib.hid (hB7.trans (hbr.mono hB7.size))
      have Hbr := Lib.hid hbr
      have c1 := HXr.out.1
      have c2 := HXr.out.2.1
      have d1 := HAr.out.1
      have d2 := HAr.out.2.1
      clear hbr
      by_cases hlt : W < N
      · have hbx := tmod_two_val (T := W) (k := X)
        have hbk := tmod_two_val (T := W) (k := K)
        have HMay := Lib.hid (Hmay.out W (by rw [← HN.out]; exact hlt))
        have Hm := Lib.hid (fun B u w' h h2 => implMaySay P X W ns B u w' h h2)
        have Hh := Lib.hid (fun B u w' h h2 => implHoldsIn P ms W B u w' h h2)
        have hmb : mayV P (X, ns) W = ((W.testBit X == W.testBit K) == holdsV P ms W) := HMay.out
        generalize mayV P (X, ns) W = A at *
        generalize holdsV P ms W = H at *
        cases hX1 : W.testBit X <;> cases hK1 : W.testBit K
        all_goals
          rw [hX1] at hbx hmb
          rw [hK1] at hbk hmb
          simp at hbx hbk hmb
          have Hmb := Lib.hid hmb
          clear hmb hX1 hK1
          go_wp2_with fail
          go_quiet (fail)
          go_upto_region 14 with fail
          clear Him Hsp Hcl hbig' HX2 HX3 HX4 HX5 HX6 HA4 HA5 HA6 HBB6 HO2 HO3 HO4 HO5 HO6 HRA4 HRA5 HRA6 HRB6
          have q1 := HXr.out.1
          go_region_held3 (fun w' => (w'.cell? ⟨w1.heap.size, 0, none⟩ = some (.int .i64 K) ∧ w'.cell? ⟨w1.heap.size, 1, none⟩ = some (.slice (some ⟨g, 0, none⟩) ms.length cp)) ∧ w'.cell? ⟨w3.heap.size, 0, none⟩ = some (.int .i64 X) ∧ w'.cell? ⟨w3.heap.size, 1, none⟩ = some (.slice fA ns.length gA))
            (first | (refine ⟨⟨?_, ?_⟩, ?_, ?_⟩ <;> first | go_keep | assumption) | assumption)
            (first
              | (go_at_call 36
                 (with_reducible refine (Hm.out wr.heap.size _ _ ?_ ?_).mono ?_)
                 · exact RdMarks.of_own HRr.out Hns.out
                 · exact Nat.le_refl _
                 rintro e w8 ⟨rfl, hb8'⟩
                 go_must (have hb8 : Below wr.heap.size wr w8 := by first | exact hb8' | exact below_undrewS hb8' | exact below_undrewN hb8'
                          clear hb8'
                          have HX8 := Lib.hid (HXr.out.below hb8)
                          have aX8 := HX8.out.1
                          have bX8 := HX8.out.2.1
                          have HA8 := Lib.hid (HAr.out.below hb8)
                          have aA8 := HA8.out.1
                          have bA8 := HA8.out.2.1
                          have HO8 := Lib.hid (own_below HOr.out hb8)
                          have Hb8 := Lib.hid (Hbr.out.trans (hb8.mono Hbr.out.size))
                          clear hb8))
              | (go_at_call 37
                 (with_reducible refine (Hh.out w8.heap.size _ _ ?_ ?_).mono ?_)
                 · exact RdMarks.of_own HO8.out Hi.out
                 · exact Nat.le_refl _
                 rintro e w9 ⟨rfl, hb9'⟩
                 go_must (have hb9 : Below w8.heap.size w8 w9 := by first | exact hb9' | exact below_undrewS hb9' | exact below_undrewN hb9'
                          clear hb9'
                          have HX9 := Lib.hid (HX8.out.below hb9)
                          have aX9 := HX9.out.1
                          have bX9 := HX9.out.2.1
                          have HA9 := Lib.hid (HA8.out.below hb9)
                          have aA9 := HA9.out.1
                          have bA9 := HA9.out.2.1
                          have Hb9 := Lib.hid (Hb8.out.trans (hb9.mono Hb8.out.size))
                          clear hb9))
              | fail)
          have hm9 := Hmb.out
          cases A <;> cases H
          all_goals first
            | exact absurd hm9 (by decide)
            | (go_wp2
               go_roundw
               case rel => first | exact ⟨W + 1, by omega, by go_num, by first | exact Hb9.out | exact below_drew1 Hb9.out | exact below_drewN Hb9.out _⟩ | ((repeat apply Exists.intro); exact ⟨⟨W + 1, by omega, by go_num, by first | exact Hb9.out | exact below_drew1 Hb9.out | exact below_drewN Hb9.out _⟩, rfl⟩)
               case measure => simp [intOf]; omega)
      · obtain rfl : W = N := by omega
        go_wp2_with fail
        refine (Hcl.out _ _ _ (RdMarks.of_own HRr.out Hns.out) (Nat.le_refl _)).mono ?_
        rintro e w8 ⟨rfl, hb8⟩
        have e1 := (hb8.cell (p := ⟨w3.heap.size, 0, none⟩) HAr.out.2.2.2.2).trans d1
        have HB8 := Lib.hid (HBr.out.trans (hb8.mono HBr.out.size))
        clear hb8 c1 c2 d1 d2
        go_wp2
        go_ret
        exact ⟨rfl, HB8.out⟩

set_option maxRecDepth 100000 in
theorem lifted (os : Os) (started : os.Started) (H : Type) (enc : TypeId × Value → H) :
    ReturnsInHanded {} Try.checked os 6 .any (Rows.fnNestedClaimSpec.pre6 enc Try.prog Try.f6 Rows.fnNestedClaimRow.domain false) (Rows.fnNestedClaimSpec.post enc Try.prog Try.f6 false true false false) := by
  refine returnsInHanded_of_change (C := Try.checked) Try.own started (by kernel_rfl) Try.func6
    (ChangeSpec.witness6 (enc := enc) (C := Try.checked) false ⟨#[], #[.slice none 0 0], []⟩ 8 (by kernel_rfl) (by kernel_rfl) (by kernel_rfl) (by kernel_rfl)) ?_
  intro W base args ds gs before hval0 hW hcnd _
  have hval : ∀ (j : Nat) t v, Try.f6.params[j]? = some t → args[j]? = some v → Value.okWide Try.prog W .any base t v := hval0
  have hW' := hW
  obtain ⟨p, q, hA0, hV, rfl, hfz, hnd⟩ := hW
  have hA : DataW.TrodAll enc Try.prog W 0 (fun _ => true) true Try.f6.params.toList args.toList ds p := hA0
  rw [Try.params6] at hA hval
  obtain ⟨v0, vs0, d0, ds0, p0, q0, hargs, rfl, rfl, h0, r0⟩ := trodAll_cons hA
  obtain ⟨rfl, rfl, rfl⟩ := trodAll_nil r0
  obtain rfl : args = #[v0] := by cases args; simp_all
  obtain ⟨rfl, rfl⟩ := trodVars_none hV
  obtain ⟨a0, len0, cap0, rfl⟩ := okWide_slice Try.underlying22 (hval 0 22 v0 rfl rfl)
  have k0 := h0
  have lt0 : ∀ x ∈ p0, x.block < W.heap.size := by obtain ⟨m, hm⟩ := k0; exact DataW.trod_lt m _ _ _ hm
  obtain ⟨z0, w0⟩ : ∃ zs, IsRow .u8 W a0 len0 cap0 zs := by
    obtain ⟨fuel, hf⟩ := h0
    rcases open_ints Try.underlying22 Try.underlying5 (by kernel_rfl) hf with ⟨hcs, _⟩ | ⟨x, l, c, zs, hcs, _, hl, hm, hz, _, hcell, hwz⟩
    · simp [Value.cells] at hcs
      obtain ⟨rfl, rfl, rfl⟩ := hcs
      exact ⟨[], .inl ⟨rfl, rfl, rfl, rfl⟩⟩
    · simp [Value.cells] at hcs
      obtain ⟨rfl, rfl, rfl⟩ := hcs
      exact ⟨zs, .inr ⟨_, rfl, hl, hm, by simpa using hz, hcell, hwz⟩⟩
  clear hA0 hval0
  refine (walk _ _ W (RdBytes.of_row w0)).mono fun e W' ⟨he, bel⟩ => ?_
  subst he
  exact ⟨_, rfl, _, _, _, [], _, [], hW', trodAll_mk1 (shut_bool Try.underlying4 _), (trodAll_cons_mk (Below.trod Try.laidOut (by kernel_rfl) (of_decide_eq_true (by kernel_rfl)) k0 bel lt0) trodAll_mk0), rfl, bel.frame _, fun h => by cases h⟩

theorem closed : joinedFacts Try.pinned.checked.prog 6 Try.f6 Rows.fnNestedClaimSpec Rows.fnNestedClaimRow = true := by
  unfold joinedFacts
  exact (and_tt (and_tt (and_tt (and_tt (and_tt (and_tt (and_tt (and_tt (and_tt (and_tt (and_tt (and_tt (and_tt (and_tt (and_tt (and_tt (and_tt (and_tt (and_tt (and_tt (and_tt (and_tt (and_tt (and_tt (and_tt (and_tt (and_tt (and_tt (and_tt (and_tt (and_tt (by kernel_rfl) (by kernel_rfl)) (by kernel_rfl)) (by kernel_rfl)) (by kernel_rfl)) (by kernel_rfl)) (by kernel_rfl)) (by kernel_rfl)) (by kernel_rfl)) (by kernel_rfl)) (by kernel_rfl)) (by kernel_rfl)) (by kernel_rfl)) (by kernel_rfl)) (by kernel_rfl)) (by kernel_rfl)) (by kernel_rfl)) (by kernel_rfl)) (by kernel_rfl)) (by kernel_rfl)) (by kernel_rfl)) (by kernel_rfl)) (by kernel_rfl)) (by kernel_rfl)) (by kernel_rfl)) Try.mayEnter0) (lifted_tt Try.lifts0 rfl)) (make_tt Try.make0 rfl)) (by kernel_rfl)) (by kernel_rfl)) (by kernel_rfl)) (by kernel_rfl))
theorem over : Rows.fnNestedClaimRow.holds Try.pinned (OpenSpec.ofChange Rows.fnNestedClaimSpec) :=
  OpenClaim.holds_of_wide 6 Try.f6 rfl rfl rfl rfl rfl rfl rfl ⟨rfl, rfl, rfl, rfl, rfl⟩ rfl rfl rfl rfl rfl (by kernel_rfl) Try.func6 closed
    (of_decide_eq_true (by kernel_rfl)) (by unfold Func.isWrapper; first | (rw [if_pos (by decide +kernel)]; kernel_rfl) | (rw [if_neg (by decide +kernel)]; exact ⟨rfl, rfl⟩))
    (fun os started H enc _ => lifted os started H enc)

theorem proved : Rows.FnNestedClaimSaid := over
end Go.Proofs.Ytpccldbcmanhdaa.fnNestedClaim


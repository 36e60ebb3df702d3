/- A law of stage 3: the same is what follows both ways. It answers true, whatever the code. No condition. -/
import Derived.Test.YtcpdcokcckbggaaDrawH
import Derived.Test.YtcpdcokcckbggaaMirrorS
import Derived.Test.YtcpdcokcckbggaaTruthI
import Derived.Test.YtcpdcokcckbggaaLawsA
import Derived.Deep.RegionHeld3
namespace Go.Proofs.Ytcpdcokcckbggaa.fnSameOk
open Go.ChangeShapes Go.WideShapes Go.ChangeAt Go.RowKit Go.Joins
attribute [local irreducible] holds tabN tabV holdsV sameV followsV alwaysV matterV mirV mirOk mcells tmOf
open Go.ChangeMaps (open_string shut_string)
set_option linter.unusedVariables false
set_option maxRecDepth 100000 in
set_option maxHeartbeats 4000000 in
theorem walk (a0 : Value) (n0 : Nat) (w : World) (w0 : RdBytes w w.heap.size a0 n0) :
    Calls Try.prog 14 #[a0] w fun e w' => e = .returned (.bool true) ∧ Below w.heap.size w w' := by
  have hr := w0
  by_cases hbig : n0 ≤ 1048576
  case neg =>
    obtain ⟨ao, cap, rfl, hl, hm, hc⟩ := w0
    have hbig' := code_big hbig
    unfold maxLen at hm
    clear hc hr hbig
    go_enter Try.func14, Try.ntmps14
    go_wp2
    go_ret
    exact ⟨rfl, Below.refl _ _⟩
  have hbig' : (n0 : Int) ≤ 1048576 := by omega
  clear hbig
  obtain ⟨ao, cap, rfl, hl, hm, hc⟩ := w0
  have Hr := Lib.hid hr
  clear hc hr hl hm
  go_enter Try.func14, Try.ntmps14
  go_wp2_with fail
  refine (drawSameOk _ _ _ Hr.out).mono ?_
  rintro e w1 ⟨p, ga, ca, gb, cb, xs, ys, hp1, hp8, rfl, hownA, hownB, hiA, hiB, hxl, hyl, hB1⟩
  obtain ⟨im, hmi, hmz0, hmz1, hmz2⟩ := info_parts Try.infoM
  have Mi := Lib.hid hmi; clear hmi
  have Mz0 := Lib.hid hmz0; clear hmz0
  have Mz1 := Lib.hid hmz1; clear hmz1
  have Mz2 := Lib.hid hmz2; clear hmz2
  have HiA := Lib.hid hiA
  have HiB := Lib.hid hiB
  have HoA1 := Lib.hid hownA
  have HoB1 := Lib.hid hownB
  clear hownA hownB hiA hiB
  go_wp2_with fail
  refine (implSameOk p xs ys _ _ _ _ _ (RdMarks.of_own HoA1.out HiA.out) (RdMarks.of_own HoB1.out HiB.out) (Nat.le_refl _) (Nat.le_refl _)).mono ?_
  rintro e w2 ⟨rfl, hb2⟩
  have HoA2 := Lib.hid (own_below HoA1.out hb2)
  have HoB2 := Lib.hid (own_below HoB1.out hb2)
  have hB2 : Below w.heap.size w w2 := hB1.trans (hb2.mono hB1.size)
  clear hb2
  have hno : termOk p xs = false ∨ termOk p ys = false → sameV p xs ys = false := sameV_no
  have hsp := fun (B B' : Nat) (a b : Value) (W : World) h h2 h3 h4 => specSameOk p xs ys B B' a b W h h2 h3 h4
  have hal : termOk p xs = true → termOk p ys = true → termOk p (xs ++ ys ++ [(5, 0)]) = true → alwaysV p (xs ++ ys ++ [(5, 0)]) = sameV p xs ys := fun h1 h2 h3 => same_always h1 h2 h3
  have hfo : termOk p xs = true → termOk p ys = true → sameV p xs ys = (followsV p xs ys && followsV p ys xs) := fun h1 h2 => same_follows h1 h2
  have hf1 := fun (B B' : Nat) (a b : Value) (W : World) h h2 h3 h4 => implFollowsOk p xs ys B B' a b W h h2 h3 h4
  have hf2 := fun (B B' : Nat) (a b : Value) (W : World) h h2 h3 h4 => implFollowsOk p ys xs B B' a b W h h2 h3 h4
  generalize sameV p xs ys = T at *
  generalize followsV p xs ys = F1 at *
  generalize followsV p ys xs = F2 at *
  have Hno := Lib.hid hno; clear hno
  have Hsp := Lib.hid hsp; clear hsp
  have Hal := Lib.hid hal; clear hal
  have Hfo := Lib.hid hfo; clear hfo
  have Hf1 := Lib.hid hf1; clear hf1
  have Hf2 := Lib.hid hf2; clear hf2
  go_wp2_with fail
  refine (Hsp.out _ _ _ _ _ (RdMarks.of_own HoA2.out HiA.out) (RdMarks.of_own HoB2.out HiB.out) (Nat.le_refl _) (Nat.le_refl _)).mono ?_
  rintro e w3 ⟨rfl, hb3⟩
  have HoA3 := Lib.hid (own_below HoA2.out hb3)
  have HoB3 := Lib.hid (own_below HoB2.out hb3)
  have hB3 : Below w.heap.size w w3 := hB2.trans (hb3.mono hB2.size)
  clear hb3
  go_wp2_with fail
  refine (specTermOk _ xs _ _ _ (RdMarks.of_own HoA3.out HiA.out)).mono ?_
  rintro e w' ⟨rfl, rfl⟩
  cases hx : termOk p xs with
  | false =>
    obtain rfl := Hno.out (.inl hx)
    clear hx
    go_wp2_with fail
    refine (alive _).mono ?_
    rintro e w' ⟨rfl, rfl⟩
    go_wp2
    go_ret
    exact ⟨rfl, hB3⟩
  | true =>
  go_wp2_with fail
  refine (specTermOk _ ys _ _ _ (RdMarks.of_own HoB3.out HiB.out)).mono ?_
  rintro e w' ⟨rfl, rfl⟩
  cases hy : termOk p ys with
  | false =>
    obtain rfl := Hno.out (.inr hy)
    clear hy hx
    go_wp2_with fail
    refine (alive _).mono ?_
    rintro e w' ⟨rfl, rfl⟩
    go_wp2
    go_ret
    exact ⟨rfl, hB3⟩
  | true =>
  have hal2 := Hal.out hx hy
  have hT := Hfo.out hx hy
  have Hrf := Lib.hid (same_refl hx)
  have HAL := Lib.hid hal2
  have HT := Lib.hid hT
  clear hx hy hal2 hT
  go_wp2_with (first
    | (at_builtin; refine wpList_append_own _ rfl (.tmp 42) (.tmp 43) 23 rfl w3.heap.size TM im (.agg #[.int .i64 0, .int .i64 0]) 2 16 Try.underlying23 Mi.out Mz0.out Mz1.out Mz2.out rfl (by decide) (.slice (some ⟨w3.heap.size, 0, none⟩) 0 0) 0 [] rfl (World.ownsRow_made w3 #[] 0 (Nat.le_refl _) (by unfold maxLen; omega) rfl) ⟨ga, 0, none⟩ xs.length ca (mcells xs) rfl (mcells_length _) ((HoA3.out.alloc _).cells (g := ga) rfl) (mcells_one _) (by unfold maxLen; omega) (by omega) (by simp) ?_; intro v1 wa hown1 hgr1 _; simp only [Nat.zero_add, List.nil_append] at hown1
       have hGa : w3.grownBy wa none := grown_own (only_alloc (World.grownBy.refl _ _) _) hgr1 (fun k hk => by simp [Value.ownBlock] at hk; omega)
       have hsza : w3.heap.size ≤ wa.heap.size := hGa.size
       have HoBa := Lib.hid (own_none HoB3.out hGa)
       have HGa := Lib.hid hGa; have Hown1 := Lib.hid hown1; clear hgr1 hGa hown1)
    | (at_builtin; refine wpList_append_own _ rfl (.tmp 44) (.tmp 45) 23 rfl w3.heap.size TM im (.agg #[.int .i64 0, .int .i64 0]) 2 16 Try.underlying23 Mi.out Mz0.out Mz1.out Mz2.out rfl (by decide) v1 xs.length (mcells xs) rfl Hown1.out ⟨gb, 0, none⟩ ys.length cb (mcells ys) rfl (mcells_length _) (HoBa.out.cells (g := gb) rfl) (mcells_one _) (by unfold maxLen; omega) (by omega) (by omega) ?_; intro v2 wb hown2 hgr2 _
       have hGb : w3.grownBy wb none := grown_own HGa.out hgr2 (fun k hk => (Hown1.out.lt k hk).1)
       have hszb : w3.heap.size ≤ wb.heap.size := hGb.size
       have HGb := Lib.hid hGb; have Hown2 := Lib.hid hown2; clear hgr2 hGb hown2)
    | (at_builtin; refine wpList_append_own _ rfl (.tmp 46) (.tmp 48) 23 rfl w3.heap.size TM im (.agg #[.int .i64 0, .int .i64 0]) 2 16 Try.underlying23 Mi.out Mz0.out Mz1.out Mz2.out rfl (by decide) v2 (xs.length + ys.length) (mcells xs ++ mcells ys) rfl (Hown2.out.alloc _) ⟨wb.heap.size, 0, none⟩ 1 1 (mcells [(5, 0)]) rfl (mcells_length _) (news2 _ _ rfl _ _ _) (mcells_one _) (by unfold maxLen; omega) (by omega) (by simp; omega) ?_; intro v3 w4 hown3 hgr3 _
       have hGc : w3.grownBy w4 none := grown_own (only_alloc HGb.out _) hgr3 (fun k hk => (Hown2.out.lt k hk).1)
       have hB4 : Below w.heap.size w w4 := hB3.trans ((below_none hGc).mono hB3.size)
       have HoA4 := Lib.hid (own_none HoA3.out hGc)
       have HoB4 := Lib.hid (own_none HoB3.out hGc)
       have HoZ4 : Hid (w4.ownsRow w3.heap.size TM 2 v3 (xs ++ ys ++ [(5, (0 : Int))]).length (mcells (xs ++ ys ++ [(5, 0)]))) := by
         unfold Hid
         rw [mcells_append, mcells_append, List.length_append, List.length_append]
         exact hown3
       have HiZ : Hid (I64s (xs ++ ys ++ [(5, (0 : Int))])) := I64s_append (I64s_append HiA.out HiB.out) (I64s_one (k := 5) (x := 0) (I64_small (by omega) (by omega)) (I64_small (by omega) (by omega)))
       clear hGc hown3 hgr3)
    | fail)
  refine (Hf1.out _ _ _ _ _ (RdMarks.of_own HoA4.out HiA.out) (RdMarks.of_own HoB4.out HiB.out) (Nat.le_refl _) (Nat.le_refl _)).mono ?_
  rintro e w5 ⟨rfl, hb5⟩
  have HoA5 := Lib.hid (own_below HoA4.out hb5)
  have HoB5 := Lib.hid (own_below HoB4.out hb5)
  have HoZ5 := Lib.hid (own_below HoZ4.out hb5)
  have hB5 : Below w.heap.size w w5 := hB4.trans (hb5.mono hB4.size)
  clear hb5
  cases F1 with
  | false =>
    have hT' : T = false := by rw [HT.out]; rfl
    subst hT'
    have Hz := Lib.hid (specTermOk p (xs ++ ys ++ [(5, 0)]) _ _ _ (RdMarks.of_own HoZ5.out HiZ.out))
    cases hz : termOk p (xs ++ ys ++ [(5, 0)]) with
    | false =>
      rw [hz] at Hz
      clear hz HAL
      go_wp2_with fail
      refine Hz.out.mono ?_
      rintro e w' ⟨rfl, rfl⟩
      go_wp2_with fail
      refine (implSameOk p xs xs _ _ _ _ _ (RdMarks.of_own HoA5.out HiA.out) (RdMarks.of_own HoA5.out HiA.out) (Nat.le_refl _) (Nat.le_refl _)).mono ?_
      rintro e w6 ⟨rfl, hb6⟩
      rw [Hrf.out]
      have hB6 : Below w.heap.size w w6 := hB5.trans (hb6.mono hB5.size)
      clear hb6
      go_wp2
      go_ret
      exact ⟨rfl, hB6⟩
    | true =>
      have hs := HAL.out hz
      rw [hz] at Hz
      clear hz HAL
      go_wp2_with fail
      refine Hz.out.mono ?_
      rintro e w' ⟨rfl, rfl⟩
      go_wp2_with fail
      refine (implAlwaysOk p (xs ++ ys ++ [(5, 0)]) _ _ _ (RdMarks.of_own HoZ5.out HiZ.out) (Nat.le_refl _)).mono ?_
      rintro e w6 ⟨rfl, hb6⟩
      rw [hs]
      have HoA6 := Lib.hid (own_below HoA5.out hb6)
      have hB6 : Below w.heap.size w w6 := hB5.trans (hb6.mono hB5.size)
      clear hb6 hs
      go_wp2_with fail
      refine (implSameOk p xs xs _ _ _ _ _ (RdMarks.of_own HoA6.out HiA.out) (RdMarks.of_own HoA6.out HiA.out) (Nat.le_refl _) (Nat.le_refl _)).mono ?_
      rintro e w7 ⟨rfl, hb7⟩
      rw [Hrf.out]
      have hB7 : Below w.heap.size w w7 := hB6.trans (hb7.mono hB6.size)
      clear hb7
      go_wp2
      go_ret
      exact ⟨rfl, hB7⟩
  | true =>
    have hT' : T = F2 := by rw [HT.out]; simp
    subst hT'
    go_wp2_with fail
    refine (Hf2.out _ _ _ _ _ (RdMarks.of_own HoB5.out HiB.out) (RdMarks.of_own HoA5.out HiA.out) (Nat.le_refl _) (Nat.le_refl _)).mono ?_
    rintro e w6 ⟨rfl, hb6⟩
    have HoA6 := Lib.hid (own_below HoA5.out hb6)
    have HoB6 := Lib.hid (own_below HoB5.out hb6)
    have HoZ6 := Lib.hid (own_below HoZ5.out hb6)
    have hB6 : Below w.heap.size w w6 := hB5.trans (hb6.mono hB5.size)
    clear hb6
    cases T
    all_goals
      have Hz := Lib.hid (specTermOk p (xs ++ ys ++ [(5, 0)]) _ _ _ (RdMarks.of_own HoZ6.out HiZ.out))
      cases hz : termOk p (xs ++ ys ++ [(5, 0)]) with
      | false =>
        rw [hz] at Hz
        clear hz HAL
        go_wp2_with fail
        refine Hz.out.mono ?_
        rintro e w' ⟨rfl, rfl⟩
        go_wp2_with fail
        refine (implSameOk p xs xs _ _ _ _ _ (RdMarks.of_own HoA6.out HiA.out) (RdMarks.of_own HoA6.out HiA.out) (Nat.le_refl _) (Nat.le_refl _)).mono ?_
        rintro e w7 ⟨rfl, hb7⟩
        rw [Hrf.out]
        have hB7 : Below w.heap.size w w7 := hB6.trans (hb7.mono hB6.size)
        clear hb7
        go_wp2
        go_ret
        exact ⟨rfl, hB7⟩
      | true =>
        have hs := HAL.out hz
        rw [hz] at Hz
        clear hz HAL
        go_wp2_with fail
        refine Hz.out.mono ?_
        rintro e w' ⟨rfl, rfl⟩
        go_wp2_with fail
        refine (implAlwaysOk p (xs ++ ys ++ [(5, 0)]) _ _ _ (RdMarks.of_own HoZ6.out HiZ.out) (Nat.le_refl _)).mono ?_
        rintro e w7 ⟨rfl, hb7⟩
        rw [hs]
        have HoA7 := Lib.hid (own_below HoA6.out hb7)
        have hB7 : Below w.heap.size w w7 := hB6.trans (hb7.mono hB6.size)
        clear hb7 hs
        go_wp2_with fail
        refine (implSameOk p xs xs _ _ _ _ _ (RdMarks.of_own HoA7.out HiA.out) (RdMarks.of_own HoA7.out HiA.out) (Nat.le_refl _) (Nat.le_refl _)).mono ?_
        rintro e w8 ⟨rfl, hb8⟩
        rw [Hrf.out]
        have hB8 : Below w.heap.size w w8 := hB7.trans (hb8.mono hB7.size)
        clear hb8
        go_wp2
        go_ret
        exact ⟨rfl, hB8⟩

set_option maxRecDepth 100000 in
theorem lifted (os : Os) (started : os.Started) (H : Type) (enc : TypeId × Value → H) :
    ReturnsInHanded {} Try.checked os 14 .any (Rows.fnSameOkSpec.pre6 enc Try.prog Try.f14 Rows.fnSameOkRow.domain false) (Rows.fnSameOkSpec.post enc Try.prog Try.f14 false true false false) := by
  refine returnsInHanded_of_change (C := Try.checked) Try.own started (by kernel_rfl) Try.func14
    (ChangeSpec.witness6 (enc := enc) (C := Try.checked) false ⟨#[], #[.slice none 0 0], []⟩ 8 (by kernel_rfl) (by kernel_rfl) (by kernel_rfl) (by kernel_rfl)) ?_
  intro W base args ds gs before hval0 hW hcnd _
  have hval : ∀ (j : Nat) t v, Try.f14.params[j]? = some t → args[j]? = some v → Value.okWide Try.prog W .any base t v := hval0
  have hW' := hW
  obtain ⟨p, q, hA0, hV, rfl, hfz, hnd⟩ := hW
  have hA : DataW.TrodAll enc Try.prog W 0 (fun _ => true) true Try.f14.params.toList args.toList ds p := hA0
  rw [Try.params14] at hA hval
  obtain ⟨v0, vs0, d0, ds0, p0, q0, hargs, rfl, rfl, h0, r0⟩ := trodAll_cons hA
  obtain ⟨rfl, rfl, rfl⟩ := trodAll_nil r0
  obtain rfl : args = #[v0] := by cases args; simp_all
  obtain ⟨rfl, rfl⟩ := trodVars_none hV
  obtain ⟨a0, len0, cap0, rfl⟩ := okWide_slice Try.underlying22 (hval 0 22 v0 rfl rfl)
  have k0 := h0
  have lt0 : ∀ x ∈ p0, x.block < W.heap.size := by obtain ⟨m, hm⟩ := k0; exact DataW.trod_lt m _ _ _ hm
  obtain ⟨z0, w0⟩ : ∃ zs, IsRow .u8 W a0 len0 cap0 zs := by
    obtain ⟨fuel, hf⟩ := h0
    rcases open_ints Try.underlying22 Try.underlying5 (by kernel_rfl) hf with ⟨hcs, _⟩ | ⟨x, l, c, zs, hcs, _, hl, hm, hz, _, hcell, hwz⟩
    · simp [Value.cells] at hcs
      obtain ⟨rfl, rfl, rfl⟩ := hcs
      exact ⟨[], .inl ⟨rfl, rfl, rfl, rfl⟩⟩
    · simp [Value.cells] at hcs
      obtain ⟨rfl, rfl, rfl⟩ := hcs
      exact ⟨zs, .inr ⟨_, rfl, hl, hm, by simpa using hz, hcell, hwz⟩⟩
  clear hA0 hval0
  refine (walk _ _ W (RdBytes.of_row w0)).mono fun e W' ⟨he, bel⟩ => ?_
  subst he
  exact ⟨_, rfl, _, _, _, [], _, [], hW', trodAll_mk1 (shut_bool Try.underlying4 _), (trodAll_cons_mk (Below.trod Try.laidOut (by kernel_rfl) (of_decide_eq_true (by kernel_rfl)) k0 bel lt0) trodAll_mk0), rfl, bel.frame _, fun h => by cases h⟩

theorem closed : joinedFacts Try.pinned.checked.prog 14 Try.f14 Rows.fnSameOkSpec Rows.fnSameOkRow = true := by
  unfold joinedFacts
  exact (and_tt (and_tt (and_tt (and_tt (and_tt (and_tt (and_tt (and_tt (and_tt (and_tt (and_tt (and_tt (and_tt (and_tt (and_tt (and_tt (and_tt (and_tt (and_tt (and_tt (and_tt (and_tt (and_tt (and_tt (and_tt (and_tt (and_tt (and_tt (and_tt (and_tt (and_tt (by kernel_rfl) (by kernel_rfl)) (by kernel_rfl)) (by kernel_rfl)) (by kernel_rfl)) (by kernel_rfl)) (by kernel_rfl)) (by kernel_rfl)) (by kernel_rfl)) (by kernel_rfl)) (by kernel_rfl)) (by kernel_rfl)) (by kernel_rfl)) (by kernel_rfl)) (by kernel_rfl)) (by kernel_rfl)) (by kernel_rfl)) (by kernel_rfl)) (by kernel_rfl)) (by kernel_rfl)) (by kernel_rfl)) (by kernel_rfl)) (by kernel_rfl)) (by kernel_rfl)) (by kernel_rfl)) Try.mayEnter0) (lifted_tt Try.lifts0 rfl)) (make_tt Try.make0 rfl)) (by kernel_rfl)) (by kernel_rfl)) (by kernel_rfl)) (by kernel_rfl))
theorem over : Rows.fnSameOkRow.holds Try.pinned (OpenSpec.ofChange Rows.fnSameOkSpec) :=
  OpenClaim.holds_of_wide 14 Try.f14 rfl rfl rfl rfl rfl rfl rfl ⟨rfl, rfl, rfl, rfl, rfl⟩ rfl rfl rfl rfl rfl (by kernel_rfl) Try.func14 closed
    (of_decide_eq_true (by kernel_rfl)) (by unfold Func.isWrapper; first | (rw [if_pos (by decide +kernel)]; kernel_rfl) | (rw [if_neg (by decide +kernel)]; exact ⟨rfl, rfl⟩))
    (fun os started H enc _ => lifted os started H enc)

theorem proved : Rows.FnSameOkSaid := over
end Go.Proofs.Ytcpdcokcckbggaa.fnSameOk


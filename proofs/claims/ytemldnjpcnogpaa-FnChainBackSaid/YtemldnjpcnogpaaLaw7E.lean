/- A law of stage 7: chains are turned round as wholes. It answers true, whatever the code. No condition. -/
import Derived.Test.YtemldnjpcnogpaaDrawA
import Derived.Test.YtemldnjpcnogpaaAskI
import Derived.Test.YtemldnjpcnogpaaTruthI
import Derived.Test.YtemldnjpcnogpaaLawsA
import Derived.Deep.RegionHeld3
import Derived.Deep.Cut
namespace Go.Proofs.Ytemldnjpcnogpaa
open Go.RowKit Go.Joins
theorem rev_take7 {zs : List Int} {k : Nat} (hk : k < zs.length) : (zs.take (k + 1)).reverse = zs.getD k 0 :: (zs.take k).reverse := by
  have e : zs.getD k 0 = zs[k] := by simp [List.getD, hk]
  rw [List.take_succ_eq_append_getElem hk, e]; simp
theorem own_newI7 (w : World) (z : Int) : (w.alloc (.cells #[.int .i64 z] 3)).ownsRow w.heap.size 3 1 (.slice (some ⟨w.heap.size, 0, none⟩) 1 1) 1 [.int .i64 z] :=
  ⟨rfl, .inr ⟨w.heap.size, 1, _, rfl, Nat.le_refl _, heap_alloc_new w _, Nat.le_refl _, by unfold maxLen; omega, rfl, rfl⟩⟩
theorem ints_one7 (zs : List Int) : ∀ u ∈ ints zs, u.oneCell' = true := by
  intro u hu
  obtain ⟨z, _, rfl⟩ := List.mem_map.1 hu
  rfl
theorem chain_rev7 {p : Int} {l : List Int} {ms : List (Int × Int)} : chainOk p l.reverse ms = chainOk p l ms := by
  unfold chainOk
  cases h : termOk p ms with
  | false => rfl
  | true =>
    rw [Bool.true_and, Bool.true_and, Bool.eq_iff_iff, chain_ok h, chain_ok h]
    simp
theorem chain_I647 {p : Int} {l : List Int} {ms : List (Int × Int)} (hi : I64s ms) (hz : ∀ z ∈ l, 0 ≤ z ∧ z ≤ 64) : I64s (chainV p l ms) ∧ (chainV p l ms).length ≤ 15 := by
  unfold chainV
  cases h : chainOk p l ms with
  | false => rw [if_neg (by simp)]; exact ⟨fun m hm => by simp at hm, by simp⟩
  | true =>
    rw [if_pos rfl]
    refine ⟨chain_I64 hi l fun z hzz => I64_small (by have := hz z hzz; omega) (by have := hz z hzz; omega), ?_⟩
    unfold chainOk at h
    simp only [Bool.and_eq_true] at h
    exact (termOk_iff.1 h.2).2.1
theorem back_law7 {p : Int} {l : List Int} {ms : List (Int × Int)} (h : chainOk p l ms = true) : sameV p (chainV p l ms) (chainV p l.reverse ms) = true := by
  have h2 : chainOk p l.reverse ms = true := by rw [chain_rev7]; exact h
  unfold chainV
  rw [if_pos h, if_pos h2]
  exact chain_back h h2
end Go.Proofs.Ytemldnjpcnogpaa
namespace Go.Proofs.Ytemldnjpcnogpaa.fnChainBack
open Go.ChangeShapes Go.WideShapes Go.ChangeAt Go.RowKit Go.Joins
attribute [local irreducible] holds tabN tabV holdsV sameV followsV alwaysV matterV mirV mirOk mcells tmOf claimOk mayT mayV ctabV ctabN storyV storyOk storyN storyT ctermV ctermL denyV denyOk ccells ansN inOk chainL chainOk chainV alikeV liesN matterN matters
open Go.ChangeMaps (open_string shut_string)
set_option linter.unusedVariables false
set_option maxRecDepth 100000 in
set_option maxHeartbeats 8000000 in
theorem walk (a0 : Value) (n0 : Nat) (w : World) (w0 : RdBytes w w.heap.size a0 n0) :
    Calls Try.prog 7 #[a0] w fun e w' => e = .returned (.bool true) ∧ Below w.heap.size w w' := by
  have hr := w0
  by_cases hbig : n0 ≤ 1048576
  case neg =>
    obtain ⟨ao, cap, rfl, hl, hm, hc⟩ := w0
    have hbig' := code_big hbig
    unfold maxLen at hm
    clear hc hr hbig
    go_enter Try.func7, Try.ntmps7
    go_wp2
    go_ret
    exact ⟨rfl, Below.refl _ _⟩
  have hbig' : (n0 : Int) ≤ 1048576 := by omega
  clear hbig
  obtain ⟨ao, cap, rfl, hl, hm, hc⟩ := w0
  have Hr := Lib.hid hr
  clear hc hr hl hm
  go_enter Try.func7, Try.ntmps7
  go_wp2_with fail
  refine (drawChainTerm _ _ _ Hr.out).mono ?_
  rintro e w1 ⟨p, gl, cl, g, cp, zs, ms, hp1, hp4, rfl, hownl, hz6, hz, hown, hi, hn, hB1⟩
  have HO1 := Lib.hid hown
  have HL1 := Lib.hid hownl
  have Hi := Lib.hid hi
  have Hz := Lib.hid hz
  clear hown hownl hi hz
  obtain ⟨i0, hi, hz0, hz1, hz2⟩ := info_parts Try.info3
  have H0 := Lib.hid hi; clear hi
  have Hz0 := Lib.hid hz0; clear hz0
  have Hz1 := Lib.hid hz1; clear hz1
  have Hz2 := Lib.hid hz2; clear hz2
  have Hz64 : Hid (∀ z ∈ zs, I64 z) := fun z h => I64_small (by have := Hz.out z h; omega) (by have := Hz.out z h; omega)
  have Hz64r : Hid (∀ z ∈ zs.reverse, I64 z) := fun z h => Hz64.out z (List.mem_reverse.1 h)
  obtain ⟨hxi, hxl⟩ := chain_I647 (p := p) Hi.out Hz.out
  obtain ⟨hyi, hyl⟩ := chain_I647 (p := p) (l := zs.reverse) Hi.out (fun z h => Hz.out z (List.mem_reverse.1 h))
  have Hxi := Lib.hid hxi
  have Hyi := Lib.hid hyi
  have him := fun B a u W ha h h2 => implChainTerm p zs ms Hz64.out (by omega) (by omega) B a u W ha h h2
  have him2 := fun B a u W ha h h2 => implChainTerm p zs.reverse ms Hz64r.out (by rw [List.length_reverse]; omega) (by omega) B a u W ha h h2
  have hsv := fun (h : chainOk p zs ms = true) => back_law7 h
  rw [chain_rev7] at him2
  generalize chainV p zs ms = xs at *
  generalize chainV p zs.reverse ms = ys at *
  generalize chainOk p zs ms = c at *
  have Him := Lib.hid him
  have Him2 := Lib.hid him2
  have hgl : gl < w1.heap.size := (HL1.out.lt gl rfl).2
  have Hcell : Hid (∀ k, k < zs.length → w1.cell? ⟨gl, k, none⟩ = some (.int .i64 (zs.getD k 0))) := fun k hk => by
    have h1 := HL1.out.cellAt k (by simpa using hk)
    simpa [ints, List.getD, hk] using h1
  have Hlr : Hid (zs.reverse.length = zs.length) := List.length_reverse
  have hrev : zs.take zs.length = zs := List.take_length
  have Hrev := Lib.hid hrev
  have Hrt := Lib.hid (fun k hk => rev_take7 (zs := zs) (k := k) hk)
  have Hil : Hid (∀ k, k ≤ zs.length → (ints (zs.take k).reverse).length = k * 1) := fun k hk => by simp [ints, Nat.min_eq_left hk]
  clear him him2 hxi hyi hrev
  generalize hL : zs.length = L at *
  have HLn := Lib.hid hL; clear hL
  have hcl1 := own_cap HL1.out
  unfold maxLen at hcl1
  go_wp2
  go_loopw [6, 7] (fun v i wr => ∃ (k gb cb : Nat), k ≤ L ∧ i = .int .i64 k ∧ v = .slice (some ⟨gb, 0, none⟩) k cb ∧ wr.ownsRow w1.heap.size 3 1 v k (ints (zs.take k).reverse) ∧ Below w1.heap.size w1 wr) (fun _ i _ => L - (intOf i).toNat)
  case atStart => exact ⟨0, _, _, Nat.zero_le _, rfl, rfl, World.ownsRow_made _ _ 0 (Nat.le_refl _) (Nat.zero_le _) rfl, (Below.refl _ _).alloc (Nat.le_refl _) _⟩
  case round =>
    obtain ⟨k, gb, cb, hk, rfl, rfl, hownb, hbr⟩ := hrel
    have hsr := hbr.size
    by_cases hlt : k < L
    · have hc1 := (hbr.cell (p := ⟨gl, k, none⟩) hgl).trans (Hcell.out k hlt)
      have hrt := Hrt.out k hlt
      have hil := Hil.out k hk
      generalize zs.getD k 0 = z at *
      have Hrt := Lib.hid hrt
      have Hbr := Lib.hid hbr
      clear hrt hbr
      go_wp2_with (first
        | (at_builtin
           refine wpList_append_own _ rfl (.tmp 32) (.tmp 33) 40 rfl wr.heap.size 3 i0 (.int .i64 0) 1 8 Try.underlying40 H0.out Hz0.out Hz1.out Hz2.out rfl (by decide) (.slice (some ⟨wr.heap.size, 0, none⟩) 1 1) 1 [.int .i64 z] rfl (own_newI7 wr z) ⟨gb, 0, none⟩ k cb (ints (zs.take k).reverse) rfl hil ((hownb.alloc _).cells (g := gb) rfl) (ints_one7 _) (by unfold maxLen; omega) (by omega) (by simp) ?_
           go_must (intro v6 w6 hown6 hgr6 _
                    obtain ⟨g6, c6, rfl⟩ := ownsRow_form hown6 (by omega)
                    have hg6 : wr.grownBy w6 none := grown_own (only_alloc (World.grownBy.refl _ _) _) hgr6 (fun k hk => by simp [Value.ownBlock] at hk; omega)
                    have Hb6 := Lib.hid (Hbr.out.trans ((below_none hg6).mono hsr))
                    have Hown6 : Hid (w6.ownsRow w1.heap.size 3 1 (.slice (some ⟨g6, 0, none⟩) (k + 1) c6) (k + 1) (ints (zs.take (k + 1)).reverse)) := by
                      unfold Hid
                      rw [Hrt.out, show ints (z :: (zs.take k).reverse) = .int .i64 z :: ints (zs.take k).reverse from rfl, Nat.add_comm k 1]
                      exact own_mono hown6 (by omega)
                    clear hg6 hgr6 hown6
                    rw [Nat.add_comm 1 k]))
        | fail)
      go_roundw
      case rel => exact ⟨k + 1, g6, c6, by omega, by go_num, rfl, Hown6.out, Hb6.out⟩
      case measure => simp [intOf]; omega
    · obtain rfl : k = L := by omega
      rw [Hrev.out] at hownb
      have Hrb : Hid (RdInts wr wr.heap.size (.slice (some ⟨gb, 0, none⟩) k cb) zs.reverse) := by
        have h := RdInts.of_own (w := wr) (base := w1.heap.size) (e := 3) (v := .slice (some ⟨gb, 0, none⟩) k cb) (zs := zs.reverse) (by rw [Hlr.out]; exact hownb)
        exact h
      have Hra : Hid (RdInts wr wr.heap.size (.slice (some ⟨gl, 0, none⟩) k cl) zs) := by
        have h1 : w1.ownsRow w.heap.size 3 1 (.slice (some ⟨gl, 0, none⟩) k cl) zs.length (zs.map (Value.int .i64)) := by rw [HLn.out]; exact HL1.out
        exact RdInts.of_own (own_below h1 hbr)
      have HO2 := Lib.hid (own_below HO1.out hbr)
      have hB2 : Below w.heap.size w wr := hB1.trans (hbr.mono hB1.size)
      clear hownb hbr hlt
      go_wp2_with fail
      refine (Him.out _ _ _ _ Hra.out (RdMarks.of_own HO2.out Hi.out) (Nat.le_refl _)).mono ?_
      rintro e w3 ⟨vA, rfl, hoA, hb3⟩
      have HO3 := Lib.hid (own_below HO2.out hb3)
      have Hrb3 := Lib.hid ((Hrb.out.below hb3.block).mono hb3.size)
      have hB3 : Below w.heap.size w w3 := hB2.trans (hb3.mono hB2.size)
      obtain ⟨fA, gA, hfA⟩ := own_len hoA
      subst hfA
      have HA3 := Lib.hid hoA
      clear hb3 hoA
      go_wp2_with fail
      refine (Him2.out _ _ _ _ Hrb3.out (RdMarks.of_own HO3.out Hi.out) (Nat.le_refl _)).mono ?_
      rintro e w4 ⟨vB, rfl, hoB, hb4⟩
      have HA4 := Lib.hid (own_below HA3.out hb4)
      have hB4 : Below w.heap.size w w4 := hB3.trans (hb4.mono hB3.size)
      obtain ⟨fB, gB, hfB⟩ := own_len hoB
      subst hfB
      have HB4 := Lib.hid hoB
      clear hb4 hoB
      cases c with
      | false =>
        go_wp2_with fail
        refine (alive _).mono ?_
        rintro e w' ⟨rfl, rfl⟩
        go_wp2
        go_ret
        exact ⟨rfl, hB4⟩
      | true =>
        have hsm := hsv rfl
        have Hsm := Lib.hid (fun B B' a b W h h2 h3 h4 => implSameOk p xs ys B B' a b W h h2 h3 h4)
        rw [hsm] at Hsm
        clear hsm hsv
        go_wp2_with fail
        refine (alive _).mono ?_
        rintro e w' ⟨rfl, rfl⟩
        go_wp2_with fail
        refine (Hsm.out _ _ _ _ _ (RdMarks.of_own HA4.out Hxi.out) (RdMarks.of_own HB4.out Hyi.out) (Nat.le_refl _) (Nat.le_refl _)).mono ?_
        rintro e w5 ⟨rfl, hb5⟩
        have hB5 : Below w.heap.size w w5 := hB4.trans (hb5.mono hB4.size)
        clear hb5
        go_wp2
        go_ret
        exact ⟨rfl, hB5⟩

set_option maxRecDepth 100000 in
theorem lifted (os : Os) (started : os.Started) (H : Type) (enc : TypeId × Value → H) :
    ReturnsInHanded {} Try.checked os 7 .any (Rows.fnChainBackSpec.pre6 enc Try.prog Try.f7 Rows.fnChainBackRow.domain false) (Rows.fnChainBackSpec.post enc Try.prog Try.f7 false true false false) := by
  refine returnsInHanded_of_change (C := Try.checked) Try.own started (by kernel_rfl) Try.func7
    (ChangeSpec.witness6 (enc := enc) (C := Try.checked) false ⟨#[], #[.slice none 0 0], []⟩ 8 (by kernel_rfl) (by kernel_rfl) (by kernel_rfl) (by kernel_rfl)) ?_
  intro W base args ds gs before hval0 hW hcnd _
  have hval : ∀ (j : Nat) t v, Try.f7.params[j]? = some t → args[j]? = some v → Value.okWide Try.prog W .any base t v := hval0
  have hW' := hW
  obtain ⟨p, q, hA0, hV, rfl, hfz, hnd⟩ := hW
  have hA : DataW.TrodAll enc Try.prog W 0 (fun _ => true) true Try.f7.params.toList args.toList ds p := hA0
  rw [Try.params7] at hA hval
  obtain ⟨v0, vs0, d0, ds0, p0, q0, hargs, rfl, rfl, h0, r0⟩ := trodAll_cons hA
  obtain ⟨rfl, rfl, rfl⟩ := trodAll_nil r0
  obtain rfl : args = #[v0] := by cases args; simp_all
  obtain ⟨rfl, rfl⟩ := trodVars_none hV
  obtain ⟨a0, len0, cap0, rfl⟩ := okWide_slice Try.underlying22 (hval 0 22 v0 rfl rfl)
  have k0 := h0
  have lt0 : ∀ x ∈ p0, x.block < W.heap.size := by obtain ⟨m, hm⟩ := k0; exact DataW.trod_lt m _ _ _ hm
  obtain ⟨z0, w0⟩ : ∃ zs, IsRow .u8 W a0 len0 cap0 zs := by
    obtain ⟨fuel, hf⟩ := h0
    rcases open_ints Try.underlying22 Try.underlying5 (by kernel_rfl) hf with ⟨hcs, _⟩ | ⟨x, l, c, zs, hcs, _, hl, hm, hz, _, hcell, hwz⟩
    · simp [Value.cells] at hcs
      obtain ⟨rfl, rfl, rfl⟩ := hcs
      exact ⟨[], .inl ⟨rfl, rfl, rfl, rfl⟩⟩
    · simp [Value.cells] at hcs
      obtain ⟨rfl, rfl, rfl⟩ := hcs
      exact ⟨zs, .inr ⟨_, rfl, hl, hm, by simpa using hz, hcell, hwz⟩⟩
  clear hA0 hval0
  refine (walk _ _ W (RdBytes.of_row w0)).mono fun e W' ⟨he, bel⟩ => ?_
  subst he
  exact ⟨_, rfl, _, _, _, [], _, [], hW', trodAll_mk1 (shut_bool Try.underlying4 _), (trodAll_cons_mk (Below.trod Try.laidOut (by kernel_rfl) (of_decide_eq_true (by kernel_rfl)) k0 bel lt0) trodAll_mk0), rfl, bel.frame _, fun h => by cases h⟩

theorem closed : joinedFacts Try.pinned.checked.prog 7 Try.f7 Rows.fnChainBackSpec Rows.fnChainBackRow = true := by
  unfold joinedFacts
  exact (and_tt (and_tt (and_tt (and_tt (and_tt (and_tt (and_tt (and_tt (and_tt (and_tt (and_tt (and_tt (and_tt (and_tt (and_tt (and_tt (and_tt (and_tt (and_tt (and_tt (and_tt (and_tt (and_tt (and_tt (and_tt (and_tt (and_tt (and_tt (and_tt (and_tt (and_tt (by kernel_rfl) (by kernel_rfl)) (by kernel_rfl)) (by kernel_rfl)) (by kernel_rfl)) (by kernel_rfl)) (by kernel_rfl)) (by kernel_rfl)) (by kernel_rfl)) (by kernel_rfl)) (by kernel_rfl)) (by kernel_rfl)) (by kernel_rfl)) (by kernel_rfl)) (by kernel_rfl)) (by kernel_rfl)) (by kernel_rfl)) (by kernel_rfl)) (by kernel_rfl)) (by kernel_rfl)) (by kernel_rfl)) (by kernel_rfl)) (by kernel_rfl)) (by kernel_rfl)) (by kernel_rfl)) Try.mayEnter0) (lifted_tt Try.lifts0 rfl)) (make_tt Try.make0 rfl)) (by kernel_rfl)) (by kernel_rfl)) (by kernel_rfl)) (by kernel_rfl))
theorem over : Rows.fnChainBackRow.holds Try.pinned (OpenSpec.ofChange Rows.fnChainBackSpec) :=
  OpenClaim.holds_of_wide 7 Try.f7 rfl rfl rfl rfl rfl rfl rfl ⟨rfl, rfl, rfl, rfl, rfl⟩ rfl rfl rfl rfl rfl (by kernel_rfl) Try.func7 closed
    (of_decide_eq_true (by kernel_rfl)) (by unfold Func.isWrapper; first | (rw [if_pos (by decide +kernel)]; kernel_rfl) | (rw [if_neg (by decide +kernel)]; exact ⟨rfl, rfl⟩))
    (fun os started H enc _ => lifted os started H enc)

theorem proved : Rows.FnChainBackSaid := over
end Go.Proofs.Ytemldnjpcnogpaa.fnChainBack


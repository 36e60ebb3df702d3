/- A law of chapter 1: in any order it is the same table. It answers true, whatever the code. No condition. -/
import Derived.Test.YtmcdfbjmbelklaaDrawU
import Derived.Test.YtmcdfbjmbelklaaFrame
namespace Go.Proofs.Ytmcdfbjmbelklaa
open Go.RowKit Go.Joins
theorem allW_get {p : Int} {zs : List Int} (h : allW p zs = true) : ∀ j, j < zs.length → wOk p (zs.getD j 0) = true := by
  intro j hj
  unfold allW at h
  rw [List.all_eq_true] at h
  have e : zs.getD j 0 = zs[j] := by simp [List.getD, hj]
  rw [e]; exact h _ (List.getElem_mem hj)
theorem tow_none {p : Int} {zs : List Int} (h : (pOk p && allW p zs) = false) : tow p zs = -1 := by simp [tow, h]
theorem tow_some {p : Int} {zs : List Int} (h : (pOk p && allW p zs) = true) : tow p zs = ((tabOf (zs.map Int.toNat) : Nat) : Int) := by simp [tow, h]
theorem tab_lt {p : Int} {zs : List Int} {N : Nat} (h : allW p zs = true) (hN : (N : Int) = 2 ^ p.toNat) : tabOf (zs.map Int.toNat) < 2 ^ N := by
  refine tabOf_lt _ N fun i hi => ?_
  obtain ⟨z, hz, rfl⟩ := List.mem_map.1 hi
  unfold allW at h
  rw [List.all_eq_true] at h
  obtain ⟨_, _, h3, h4⟩ := wOk_iff.1 (h z hz)
  rw [← hN] at h4
  omega
theorem in_worlds {p z : Int} {zs : List Int} {N : Nat} (h : allW p zs = true) (hN : (N : Int) = 2 ^ p.toNat) (hz : z ∈ zs) : z ∈ nums (wl (tabOf (zs.map Int.toNat)) N) := by
  unfold allW at h
  rw [List.all_eq_true] at h
  obtain ⟨_, _, h3, h4⟩ := wOk_iff.1 (h z hz)
  rw [← hN] at h4
  refine List.mem_map.2 ⟨z.toNat, wl_mem.2 ⟨by omega, ?_⟩, by omega⟩
  rw [tabOf_bit, decide_eq_true_eq]
  exact List.mem_map.2 ⟨z, hz, rfl⟩
theorem of_worlds {p z : Int} {zs : List Int} {N : Nat} (h : allW p zs = true) (hz : z ∈ nums (wl (tabOf (zs.map Int.toNat)) N)) : z ∈ zs := by
  obtain ⟨i, hi, rfl⟩ := List.mem_map.1 hz
  have hb := (wl_mem.1 hi).2
  rw [tabOf_bit, decide_eq_true_eq] at hb
  obtain ⟨y, hy, he⟩ := List.mem_map.1 hb
  unfold allW at h
  rw [List.all_eq_true] at h
  have h3 := (wOk_iff.1 (h y hy)).2.2.1
  have : ((i : Nat) : Int) = y := by omega
  rw [this]; exact hy
theorem tow_rev {p : Int} {zs : List Int} : tow p zs.reverse = tow p zs := by
  unfold tow
  have e1 : allW p zs.reverse = allW p zs := by unfold allW; rw [List.all_reverse]
  have e2 : tabOf (zs.reverse.map Int.toNat) = tabOf (zs.map Int.toNat) := tabOf_ext (fun j => by simp)
  rw [e1, e2]
theorem rev_take {zs : List Int} {k : Nat} (hk : k < zs.length) : (zs.take (k + 1)).reverse = zs.getD k 0 :: (zs.take k).reverse := by
  rw [take_snoc 0 zs k hk]; simp
theorem own_newI (w : World) (z : Int) : (w.alloc (.cells #[.int .i64 z] 3)).ownsRow w.heap.size 3 1 (.slice (some ⟨w.heap.size, 0, none⟩) 1 1) 1 [.int .i64 z] :=
  ⟨rfl, .inr ⟨w.heap.size, 1, _, rfl, Nat.le_refl _, heap_alloc_new w _, Nat.le_refl _, by unfold maxLen; omega, rfl, rfl⟩⟩
theorem ints_cons (z : Int) (zs : List Int) : ints (z :: zs) = .int .i64 z :: ints zs := rfl
theorem ints_one (zs : List Int) : ∀ u ∈ ints zs, u.oneCell' = true := by
  intro u hu
  obtain ⟨z, _, rfl⟩ := List.mem_map.1 hu
  rfl
theorem RdInts.kept {w w' : World} {v : Value} {zs : List Int} (h : RdInts w w.heap.size v zs) (hb : Below w.heap.size w w') : RdInts w' w'.heap.size v zs := (h.below hb.block).mono hb.size
theorem tow_val {p : Int} {zs : List Int} {N : Nat} (hp : 1 ≤ p ∧ p ≤ 4) (h : allW p zs = true) (hN : (N : Int) = 2 ^ p.toNat) (hN16 : N ≤ 16) : ∃ T : Nat, T < 65536 ∧ T < 2 ^ N ∧ tow p zs = (T : Int) ∧ T = tabOf (zs.map Int.toNat) ∧ tOk p T = true := by
  have hlt := tab_lt h hN
  have hle : tabOf (zs.map Int.toNat) < 65536 := Nat.lt_of_lt_of_le hlt (by exact Nat.pow_le_pow_right (by decide) hN16)
  have hpo : pOk p = true := by unfold pOk; simpa using hp
  refine ⟨_, hle, hlt, tow_some (by rw [hpo, h]; rfl), rfl, ?_⟩
  have hNN : N = 2 ^ p.toNat := by
    have : ((2 ^ p.toNat : Nat) : Int) = 2 ^ p.toNat := by simp
    omega
  subst hNN
  rw [tOk_iff]
  exact ⟨hp.1, hp.2, Int.natCast_nonneg _, by exact_mod_cast hlt⟩
end Go.Proofs.Ytmcdfbjmbelklaa

namespace Go.Proofs.Ytmcdfbjmbelklaa.fnTableOfWorlds
open Go.ChangeShapes Go.WideShapes Go.ChangeAt Go.RowKit Go.Joins
open Go.ChangeMaps (open_string shut_string)
set_option linter.unusedVariables false
attribute [local irreducible] heads turned tabOf wl tow nums
set_option maxRecDepth 100000 in
set_option maxHeartbeats 2000000 in
theorem walk (a0 : Value) (n0 : Nat) (w : World) (w0 : RdBytes w w.heap.size a0 n0) :
    Calls Try.prog 3 #[a0] w fun e w' => e = .returned (.bool true) ∧ Below w.heap.size w w' := by
  have hr := w0
  by_cases hbig : n0 ≤ 1048576
  case neg =>
    obtain ⟨ao, cap, rfl, hl, hm, hc⟩ := w0
    have hbig' := code_big hbig
    unfold maxLen at hm
    clear hc hr hbig
    go_enter Try.func3, Try.ntmps3
    go_wp2
    go_ret
    exact ⟨rfl, Below.refl _ _⟩
  have hbig' : (n0 : Int) ≤ 1048576 := by omega
  clear hbig
  obtain ⟨ao, cap, rfl, hl, hm, hc⟩ := w0
  have Hr := Lib.hid hr
  clear hc hr hl hm
  go_enter Try.func3, Try.ntmps3
  go_wp2_with fail
  refine (drawTableOfWorlds _ _ _ Hr.out).mono ?_
  rintro e w1 ⟨p, g, cp, zs, hp1, hp8, rfl, hown, hn, hall, hB1⟩
  have Hall := Lib.hid hall; clear hall
  have Hown1 := Lib.hid hown; clear hown
  have Hrd1 := Lib.hid (RdInts.of_own (zs := zs) Hown1.out)
  obtain ⟨i0, hi, hz0, hz1, hz2⟩ := info_parts Try.info3
  have Hi := Lib.hid hi; clear hi
  have Hz0 := Lib.hid hz0; clear hz0
  have Hz1 := Lib.hid hz1; clear hz1
  have Hz2 := Lib.hid hz2; clear hz2
  go_wp2_with fail
  refine (implTableOfWorlds _ zs _ _ _ Hrd1.out).mono ?_
  rintro e w' ⟨rfl, rfl⟩
  cases hok : (pOk p && allW p zs) with
  | false =>
    have Hv := Lib.hid (tow_none hok); clear hok
    rw [Hv.out]
    go_wp2_with fail
    refine (specTableOfWorlds _ zs _ _ _ Hrd1.out).mono ?_
    rintro e w' ⟨rfl, rfl⟩
    rw [Hv.out]
    go_wp2_with fail
    refine (alive _).mono ?_
    rintro e w' ⟨rfl, rfl⟩
    go_wp2
    go_ret
    exact ⟨rfl, hB1⟩
  | true =>
    rw [Bool.and_eq_true] at hok
    have hpp : 1 ≤ p ∧ p ≤ 4 := by have := hok.1; unfold pOk at this; simpa using this
    have Hw := Lib.hid hok.2
    clear hok
    have HN := cnt_of p
    obtain ⟨hN2, hN16⟩ := two_pow_N hpp.1 hpp.2
    generalize (2 : Nat) ^ p.toNat = N at *
    obtain ⟨T, hT1, hT2, hT3, hT4, hT5⟩ := tow_val hpp Hw.out HN.out hN16
    have HT2 := Lib.hid hT2; clear hT2
    have HT3 := Lib.hid hT3; clear hT3
    have HT4 := Lib.hid hT4; clear hT4
    have HT5 := Lib.hid hT5; clear hT5
    have hT0 : (0 : Int) ≤ (T : Int) := Int.natCast_nonneg _
    have HT1 := Lib.hid hT1; clear hT1
    rw [HT3.out]
    go_wp2_with fail
    refine (specTableOfWorlds _ zs _ _ _ Hrd1.out).mono ?_
    rintro e w' ⟨rfl, rfl⟩
    rw [HT3.out]
    have hB2 : Below w.heap.size w (w1.alloc (.cells #[] 3)) := hB1.alloc hB1.size _
    have Hown2 := Lib.hid (Hown1.out.alloc (.cells #[] 3))
    have hownb : (w1.alloc (.cells #[] 3)).ownsRow w1.heap.size 3 1 (.slice (some ⟨w1.heap.size, 0, none⟩) 0 0) 0 (ints []) := World.ownsRow_made _ _ 0 (Nat.le_refl _) (Nat.zero_le _) rfl
    have Hownb2 := Lib.hid hownb; clear hownb
    clear Hrd1 Hown1
    go_wp2_with fail
    refine (implWorldsIn_yes p T N HT5.out HN hN16 _).mono ?_
    rintro e w3 ⟨vw, rfl, hownw, hb3⟩
    rw [vals_nums, ← nums_length] at hownw
    have hB3 : Below w.heap.size w w3 := hB2.trans (hb3.mono hB2.size)
    have hlw : (nums (wl T N)).length ≤ 16 := by rw [nums_length]; have := wl_le T N; omega
    have Hown3 := Lib.hid (own_below Hown2.out hb3)
    have Hownb3 := Lib.hid (own_below Hownb2.out hb3)
    have Hwo := Lib.hid (fun j (hj : j < zs.length) => in_worlds (z := zs.getD j 0) Hw.out HN.out (by rw [show zs.getD j 0 = zs[j] from by simp [List.getD, hj]]; exact List.getElem_mem hj))
    have Hof : Hid (∀ z ∈ nums (wl T N), z ∈ zs) := fun z hz => of_worlds Hw.out (by rw [← HT4.out]; exact hz)
    rw [← HT4.out] at Hwo
    generalize nums (wl T N) = ws at *
    have hs3 : w1.heap.size + 1 ≤ w3.heap.size := by have := hb3.size; simpa using this
    have Hrw3 := Lib.hid (RdInts.of_own (zs := ws) hownw)
    have Hrd3 := Lib.hid (RdInts.of_own (zs := zs) Hown3.out)
    clear hb3 hownw Hown2 Hownb2 Hown3
    generalize hL : zs.length = L at *
    have HL := Lib.hid hL; clear hL
    go_wp2_with fail
    go_loopw [6, 8] (fun v i wr => ∃ (k gb cb : Nat), k ≤ L ∧ i = .int .i64 k ∧ v = .slice (some ⟨gb, 0, none⟩) k cb ∧ wr.ownsRow w1.heap.size 3 1 v k (ints (zs.take k).reverse) ∧ Below w3.heap.size w3 wr) (fun _ i _ => L - (intOf i).toNat)
    case atStart => exact ⟨0, _, _, Nat.zero_le _, rfl, rfl, by simpa using Hownb3.out, Below.refl _ _⟩
    case round =>
      obtain ⟨k, gb, cb, hk, rfl, rfl, hownb, hbw⟩ := hrel
      have hsr := hbw.size
      have Hrwr := Lib.hid (Hrw3.out.below (below_block hbw (Nat.le_refl _)))
      have Hrdr := Lib.hid (Hrd3.out.below (below_block hbw (Nat.le_refl _)))
      by_cases hlt : k < L
      · have hlt' : k < zs.length := by rw [HL.out]; exact hlt
        obtain ⟨ao2, cap2, hv2, _, _, hac2⟩ := Hrdr.out
        obtain ⟨b1, o1, he, hb1, hc1⟩ := hac2 k hlt'
        obtain ⟨rfl, rfl⟩ : b1 = g ∧ o1 = 0 := by cases hv2; cases he; exact ⟨rfl, rfl⟩
        clear hac2 hv2 he
        rw [Nat.zero_add] at hc1
        have Hin := Lib.hid (Hwo.out k hlt)
        have Hrev := Lib.hid (rev_take hlt')
        have hlen : Hid ((ints (zs.take k).reverse).length = k * 1) := by unfold Hid; rw [ints_len]; simp; omega
        clear hlt'
        generalize zs.getD k 0 = z at *
        have hgw : b1 < wr.heap.size := by omega
        go_wp2_with (first
          | (at_builtin
             refine wpList_append_own _ rfl (.tmp 47) (.tmp 48) 23 rfl wr.heap.size 3 i0 (.int .i64 0) 1 8 Try.underlying23 Hi.out Hz0.out Hz1.out Hz2.out rfl (by decide) (.slice (some ⟨wr.heap.size, 0, none⟩) 1 1) 1 [.int .i64 z] rfl (own_newI wr z) ⟨gb, 0, none⟩ k cb (ints (zs.take k).reverse) rfl hlen.out ((hownb.alloc _).cells (g := gb) rfl) (ints_one _) (by unfold maxLen; omega) (by omega) (by simp) ?_
             go_must (intro v6 w6 hown6 hgr6 _
                      obtain ⟨g6, c6, rfl⟩ := ownsRow_form hown6 (by omega)
                      have hg6 : wr.grownBy w6 none := grown_own (only_alloc (World.grownBy.refl _ _) _) hgr6 (fun k hk => by simp [Value.ownBlock] at hk; omega)
                      have hb6 : Below w3.heap.size w3 w6 := hbw.trans ((below_none hg6).mono hsr)
                      have Hown6 : Hid (w6.ownsRow w1.heap.size 3 1 (.slice (some ⟨g6, 0, none⟩) (k + 1) c6) (k + 1) (ints (zs.take (k + 1)).reverse)) := by
                        unfold Hid
                        rw [Hrev.out, ints_cons, Nat.add_comm k 1]
                        exact own_mono hown6 (by omega)
                      have hc6 := (hg6.cell_far ⟨b1, k, none⟩ hgw (by simp)).trans hc1
                      have Hrw6 := Lib.hid (Hrwr.out.below (w' := w6) (fun i hi => hg6.block i (by omega) (by simp)))
                      have hs6 := hb6.size
                      clear hg6 hgr6 hown6
                      rw [Nat.add_comm 1 k]))
          | (go_at_call 15
             refine (hasInt ws z _ _ _ Hrw6.out).mono ?_
             rintro e w' ⟨rfl, rfl⟩
             rw [show decide (z ∈ ws) = true from by rw [decide_eq_true_eq]; exact Hin.out])
          | fail)
        go_roundw
        case rel => exact ⟨k + 1, g6, c6, by omega, by go_num, rfl, Hown6.out, hb6⟩
        case measure => simp [intOf]; omega
      · obtain rfl : k = L := by omega
        have hrev : zs.take k = zs := by rw [← HL.out]; exact List.take_length
        rw [hrev] at hownb
        have Hownb := Lib.hid hownb
        clear hownb hrev hlt
        obtain ⟨aw, cw, rfl, hlw2, hmw, hcw⟩ := Hrwr.out
        have Hcw := Lib.hid hcw; clear hcw
        unfold maxLen at hmw
        have hBr : Below w.heap.size w wr := hB3.trans (hbw.mono hB3.size)
        go_wp2_with fail
        go_loop [9] (fun i => ∃ j : Nat, j ≤ ws.length ∧ i = .int .i64 j) (fun i => ws.length - (intOf i).toNat)
        case atStart => exact ⟨0, Nat.zero_le _, rfl⟩
        case round =>
          obtain ⟨j, hj, rfl⟩ := hrel
          by_cases hjl : j < ws.length
          · obtain ⟨b1, o1, rfl, hb1, hc1⟩ := Hcw.out j hjl
            have Hin := Lib.hid (Hof.out (ws.getD j 0) (by rw [show ws.getD j 0 = ws[j] from by simp [List.getD, hjl]]; exact List.getElem_mem hjl))
            generalize ws.getD j 0 = z at *
            go_wp2_with fail
            refine (hasInt zs z _ _ _ Hrdr.out).mono ?_
            rintro e w' ⟨rfl, rfl⟩
            rw [show decide (z ∈ zs) = true from by rw [decide_eq_true_eq]; exact Hin.out]
            go_wp2
            go_round
            case rel => exact ⟨j + 1, by omega, by go_num⟩
            case measure => simp [intOf]; omega
          · obtain rfl : j = ws.length := by omega
            go_wp2_with fail
            refine (implTableOfWorlds _ zs.reverse _ _ _ (RdInts.of_own (zs := zs.reverse) (by rw [List.length_reverse, HL.out]; exact Hownb.out))).mono ?_
            rintro e w' ⟨rfl, rfl⟩
            rw [tow_rev, HT3.out]
            go_wp2_with fail
            refine (alive _).mono ?_
            rintro e w' ⟨rfl, rfl⟩
            go_wp2
            go_ret
            exact ⟨rfl, hBr⟩

set_option maxRecDepth 100000 in
theorem lifted (os : Os) (started : os.Started) (H : Type) (enc : TypeId × Value → H) :
    ReturnsInHanded {} Try.checked os 3 .any (Rows.fnTableOfWorldsSpec.pre6 enc Try.prog Try.f3 Rows.fnTableOfWorldsRow.domain false) (Rows.fnTableOfWorldsSpec.post enc Try.prog Try.f3 false true false false) := by
  refine returnsInHanded_of_change (C := Try.checked) Try.own started (by kernel_rfl) Try.func3
    (ChangeSpec.witness6 (enc := enc) (C := Try.checked) false ⟨#[], #[.slice none 0 0], []⟩ 8 (by kernel_rfl) (by kernel_rfl) (by kernel_rfl) (by kernel_rfl)) ?_
  intro W base args ds gs before hval0 hW hcnd _
  have hval : ∀ (j : Nat) t v, Try.f3.params[j]? = some t → args[j]? = some v → Value.okWide Try.prog W .any base t v := hval0
  have hW' := hW
  obtain ⟨p, q, hA0, hV, rfl, hfz, hnd⟩ := hW
  have hA : DataW.TrodAll enc Try.prog W 0 (fun _ => true) true Try.f3.params.toList args.toList ds p := hA0
  rw [Try.params3] at hA hval
  obtain ⟨v0, vs0, d0, ds0, p0, q0, hargs, rfl, rfl, h0, r0⟩ := trodAll_cons hA
  obtain ⟨rfl, rfl, rfl⟩ := trodAll_nil r0
  obtain rfl : args = #[v0] := by cases args; simp_all
  obtain ⟨rfl, rfl⟩ := trodVars_none hV
  obtain ⟨a0, len0, cap0, rfl⟩ := okWide_slice Try.underlying22 (hval 0 22 v0 rfl rfl)
  have k0 := h0
  have lt0 : ∀ x ∈ p0, x.block < W.heap.size := by obtain ⟨m, hm⟩ := k0; exact DataW.trod_lt m _ _ _ hm
  obtain ⟨z0, w0⟩ : ∃ zs, IsRow .u8 W a0 len0 cap0 zs := by
    obtain ⟨fuel, hf⟩ := h0
    rcases open_ints Try.underlying22 Try.underlying5 (by kernel_rfl) hf with ⟨hcs, _⟩ | ⟨x, l, c, zs, hcs, _, hl, hm, hz, _, hcell, hwz⟩
    · simp [Value.cells] at hcs
      obtain ⟨rfl, rfl, rfl⟩ := hcs
      exact ⟨[], .inl ⟨rfl, rfl, rfl, rfl⟩⟩
    · simp [Value.cells] at hcs
      obtain ⟨rfl, rfl, rfl⟩ := hcs
      exact ⟨zs, .inr ⟨_, rfl, hl, hm, by simpa using hz, hcell, hwz⟩⟩
  clear hA0 hval0
  refine (walk _ _ W (RdBytes.of_row w0)).mono fun e W' ⟨he, bel⟩ => ?_
  subst he
  exact ⟨_, rfl, _, _, _, [], _, [], hW', trodAll_mk1 (shut_bool Try.underlying4 _), (trodAll_cons_mk (Below.trod Try.laidOut (by kernel_rfl) (of_decide_eq_true (by kernel_rfl)) k0 bel lt0) trodAll_mk0), rfl, bel.frame _, fun h => by cases h⟩

theorem closed : joinedFacts Try.pinned.checked.prog 3 Try.f3 Rows.fnTableOfWorldsSpec Rows.fnTableOfWorldsRow = true := by
  unfold joinedFacts
  exact (and_tt (and_tt (and_tt (and_tt (and_tt (and_tt (and_tt (and_tt (and_tt (and_tt (and_tt (and_tt (and_tt (and_tt (and_tt (and_tt (and_tt (and_tt (and_tt (and_tt (and_tt (and_tt (and_tt (and_tt (and_tt (and_tt (and_tt (and_tt (and_tt (and_tt (and_tt (by kernel_rfl) (by kernel_rfl)) (by kernel_rfl)) (by kernel_rfl)) (by kernel_rfl)) (by kernel_rfl)) (by kernel_rfl)) (by kernel_rfl)) (by kernel_rfl)) (by kernel_rfl)) (by kernel_rfl)) (by kernel_rfl)) (by kernel_rfl)) (by kernel_rfl)) (by kernel_rfl)) (by kernel_rfl)) (by kernel_rfl)) (by kernel_rfl)) (by kernel_rfl)) (by kernel_rfl)) (by kernel_rfl)) (by kernel_rfl)) (by kernel_rfl)) (by kernel_rfl)) (by kernel_rfl)) Try.mayEnter0) (lifted_tt Try.lifts0 rfl)) (make_tt Try.make0 rfl)) (by kernel_rfl)) (by kernel_rfl)) (by kernel_rfl)) (by kernel_rfl))
theorem over : Rows.fnTableOfWorldsRow.holds Try.pinned (OpenSpec.ofChange Rows.fnTableOfWorldsSpec) :=
  OpenClaim.holds_of_wide 3 Try.f3 rfl rfl rfl rfl rfl rfl rfl ⟨rfl, rfl, rfl, rfl, rfl⟩ rfl rfl rfl rfl rfl (by kernel_rfl) Try.func3 closed
    (of_decide_eq_true (by kernel_rfl)) (by unfold Func.isWrapper; first | (rw [if_pos (by decide +kernel)]; kernel_rfl) | (rw [if_neg (by decide +kernel)]; exact ⟨rfl, rfl⟩))
    (fun os started H enc _ => lifted os started H enc)

theorem proved : Rows.FnTableOfWorldsSaid := over
end Go.Proofs.Ytmcdfbjmbelklaa.fnTableOfWorlds


/- A law of stage 3: in the opposite world the mirrored term holds. It answers true, whatever the code. No condition. -/
import Derived.Test.YtiakelhpmiffdaaDrawH
import Derived.Test.YtiakelhpmiffdaaMirrorS
import Derived.Test.YtiakelhpmiffdaaTruthI
import Derived.Test.YtiakelhpmiffdaaLawsA
import Derived.Deep.RegionHeld3
namespace Go.Proofs.Ytiakelhpmiffdaa.fnHoldsIn
open Go.ChangeShapes Go.WideShapes Go.ChangeAt Go.RowKit Go.Joins
attribute [local irreducible] holds tabN tabV holdsV sameV followsV alwaysV matterV mirV mirOk mcells tmOf
open Go.ChangeMaps (open_string shut_string)
set_option linter.unusedVariables false
set_option maxRecDepth 100000 in
set_option maxHeartbeats 1500000 in
theorem walk (a0 : Value) (n0 : Nat) (w : World) (w0 : RdBytes w w.heap.size a0 n0) :
    Calls Try.prog 3 #[a0] w fun e w' => e = .returned (.bool true) ∧ Below w.heap.size w w' := by
  have hr := w0
  by_cases hbig : n0 ≤ 1048576
  case neg =>
    obtain ⟨ao, cap, rfl, hl, hm, hc⟩ := w0
    have hbig' := code_big hbig
    unfold maxLen at hm
    clear hc hr hbig
    go_enter Try.func3, Try.ntmps3
    go_wp2
    go_ret
    exact ⟨rfl, Below.refl _ _⟩
  have hbig' : (n0 : Int) ≤ 1048576 := by omega
  clear hbig
  obtain ⟨ao, cap, rfl, hl, hm, hc⟩ := w0
  have Hr := Lib.hid hr
  clear hc hr hl hm
  go_enter Try.func3, Try.ntmps3
  go_wp2_with fail
  refine (drawHoldsIn _ _ _ Hr.out).mono ?_
  rintro e w1 ⟨p, g, n, cp, ms, x, hp1, hp4, rfl, hlen, hown, hi, hn, hx0, hx1, hB1⟩
  obtain ⟨im, hmi0, hmz0, hmz1, hmz2⟩ := info_parts Try.infoM
  have Mi := Lib.hid hmi0; clear hmi0
  have Mz0 := Lib.hid hmz0; clear hmz0
  have Mz1 := Lib.hid hmz1; clear hmz1
  have Mz2 := Lib.hid hmz2; clear hmz2
  subst hlen
  have Hi := Lib.hid hi; clear hi
  have Ho1 := Lib.hid hown; clear hown
  go_wp2_with fail
  refine (implHoldsIn p ms x _ _ _ (RdMarks.of_own Ho1.out Hi.out) (Nat.le_refl _)).mono ?_
  rintro e w2 ⟨rfl, hb2⟩
  have Ho2 := Lib.hid (own_below Ho1.out hb2)
  have hB2 : Below w.heap.size w w2 := hB1.trans (hb2.mono hB1.size)
  clear hb2
  have hno : termOk p ms = false → holdsV p ms x = false := holdsV_no
  have hno2 : wOk p x = false → holdsV p ms x = false := holdsV_no2
  have hmi : mirOk p ms = true → wOk p x = true → holdsV p (mirV p ms) (opw p x) = holdsV p ms x := fun h h2 => holdsV_mir h h2
  have hnt : termOk p ms = true → termOk p (ms ++ [(2, 0)]) = true → wOk p x = true → holdsV p (ms ++ [(2, 0)]) x = !holdsV p ms x := fun h h2 h3 => not_holds h h2 h3
  have hsp := fun (B : Nat) (v : Value) (W : World) h h2 => specHoldsIn p ms x B v W h h2
  have hmt := fun (B : Nat) (v : Value) (W : World) h h2 => implMirrorTerm p ms B v W h h2
  have hxi := mirV_I64 p ms
  have hmm := fun (B : Nat) (v : Value) (W : World) h h2 => implHoldsIn p (mirV p ms) (opw p x) B v W h h2
  have how := fun (h : Hid (wOk p x = true)) (W : World) => implOppositeWorld_yes p x (2 ^ p.toNat) h (cnt_of p) W
  rw [show (((2 ^ p.toNat : Nat) : Int) - 1 - x) = opw p x from by unfold opw; simp] at how
  unfold MirOut at hmt
  generalize holdsV p ms x = T at *
  generalize mirV p ms = xs at *
  generalize mirOk p ms = mo at *
  generalize opw p x = ox at *
  generalize holdsV p xs ox = TX at *
  have Hno := Lib.hid hno; clear hno
  have Hno2 := Lib.hid hno2; clear hno2
  have Hmi := Lib.hid hmi; clear hmi
  have Hnt := Lib.hid hnt; clear hnt
  have Hsp := Lib.hid hsp; clear hsp
  have Hmt := Lib.hid hmt; clear hmt
  have Hxi := Lib.hid hxi; clear hxi
  have Hmm := Lib.hid hmm; clear hmm
  have How := Lib.hid how; clear how
  go_wp2_with fail
  refine (Hsp.out _ _ _ (RdMarks.of_own Ho2.out Hi.out) (Nat.le_refl _)).mono ?_
  rintro e w3 ⟨rfl, hb3⟩
  have Ho3 := Lib.hid (own_below Ho2.out hb3)
  have hB3 : Below w.heap.size w w3 := hB2.trans (hb3.mono hB2.size)
  clear hb3
  go_wp2_with fail
  refine (specTermOk _ ms _ _ _ (RdMarks.of_own Ho3.out Hi.out)).mono ?_
  rintro e w' ⟨rfl, rfl⟩
  cases hok : termOk p ms with
  | false =>
    obtain rfl := Hno.out hok
    clear hok
    go_wp2_with fail
    refine (alive _).mono ?_
    rintro e w' ⟨rfl, rfl⟩
    go_wp2
    go_ret
    exact ⟨rfl, hB3⟩
  | true =>
  go_wp2_with fail
  refine (specWorldOk _ _ _).mono ?_
  rintro e w' ⟨rfl, rfl⟩
  cases hwk : wOk p x with
  | false =>
    obtain rfl := Hno2.out hwk
    clear hok hwk
    go_wp2_with fail
    refine (alive _).mono ?_
    rintro e w' ⟨rfl, rfl⟩
    go_wp2
    go_ret
    exact ⟨rfl, hB3⟩
  | true =>
  have Hnt2 := Lib.hid (fun h => Hnt.out hok h hwk)
  have Hmi2 := Lib.hid (fun h => Hmi.out h hwk)
  have How2 := Lib.hid (How.out hwk)
  clear hok hwk
  go_wp2_with fail
  refine (Hmt.out _ _ _ (RdMarks.of_own Ho3.out Hi.out) (Nat.le_refl _)).mono ?_
  rintro e w4 ⟨vx, rfl, hown4, hb4⟩
  have Ho4 := Lib.hid (own_below Ho3.out hb4)
  have Hx4 := Lib.hid hown4
  have hB4 : Below w.heap.size w w4 := hB3.trans (hb4.mono hB3.size)
  clear hb4 hown4
  cases mo with
  | false =>
    go_wp2_with (first
      | (at_builtin; refine wpList_append_own _ rfl (.tmp 50) (.tmp 51) 23 rfl w4.heap.size TM im (.agg #[.int .i64 0, .int .i64 0]) 2 16 Try.underlying23 Mi.out Mz0.out Mz1.out Mz2.out rfl (by decide) (.slice (some ⟨w4.heap.size, 0, none⟩) 0 0) 0 [] rfl (World.ownsRow_made w4 #[] 0 (Nat.le_refl _) (by unfold maxLen; omega) rfl) ⟨g, 0, none⟩ ms.length cp (mcells ms) rfl (mcells_length _) ((Ho4.out.alloc _).cells (g := g) rfl) (mcells_one _) (by unfold maxLen; omega) (by omega) (by simp) ?_; intro v1 wa hown1 hgr1 _; simp only [Nat.zero_add, List.nil_append] at hown1
         have hGa : w4.grownBy wa none := grown_own (only_alloc (World.grownBy.refl _ _) _) hgr1 (fun k hk => by simp [Value.ownBlock] at hk; omega)
         have hsza : w4.heap.size ≤ wa.heap.size := hGa.size
         have HGa := Lib.hid hGa; have Hown1 := Lib.hid hown1; clear hgr1 hGa hown1)
      | (at_builtin; refine wpList_append_own _ rfl (.tmp 52) (.tmp 54) 23 rfl w4.heap.size TM im (.agg #[.int .i64 0, .int .i64 0]) 2 16 Try.underlying23 Mi.out Mz0.out Mz1.out Mz2.out rfl (by decide) v1 ms.length (mcells ms) rfl (Hown1.out.alloc _) ⟨wa.heap.size, 0, none⟩ 1 1 (mcells [(2, 0)]) rfl (mcells_length _) (news2 _ _ rfl _ _ _) (mcells_one _) (by unfold maxLen; omega) (by omega) (by simp; omega) ?_; intro v2 w5 hown5 hgr5 _
         have hG5 : w4.grownBy w5 none := grown_own (only_alloc HGa.out _) hgr5 (fun k hk => (Hown1.out.lt k hk).1)
         have hB5 : Below w.heap.size w w5 := hB4.trans ((below_none hG5).mono hB4.size)
         have Hx5 := Lib.hid (own_none Hx4.out hG5)
         have HoZ5 : Hid (w5.ownsRow w4.heap.size TM 2 v2 (ms ++ [(2, (0 : Int))]).length (mcells (ms ++ [(2, 0)]))) := by
           unfold Hid
           rw [mcells_append, List.length_append]
           exact hown5
         have HiZ : Hid (I64s (ms ++ [(2, (0 : Int))])) := I64s_append Hi.out (I64s_one (k := 2) (x := 0) (I64_small (by omega) (by omega)) (I64_small (by omega) (by omega)))
         clear hG5 hown5 hgr5)
      | fail)
    have Hz := Lib.hid (specTermOk p (ms ++ [(2, 0)]) _ _ _ (RdMarks.of_own HoZ5.out HiZ.out))
    have Hz2 := Lib.hid (implHoldsIn p (ms ++ [(2, 0)]) x _ _ _ (RdMarks.of_own HoZ5.out HiZ.out) (Nat.le_refl _))
    cases hz : termOk p (ms ++ [(2, 0)]) with
    | false =>
      rw [hz] at Hz
      clear hz Hz2
      go_wp2_with fail
      refine Hz.out.mono ?_
      rintro e w' ⟨rfl, rfl⟩
      go_wp2_with fail
      refine (alive _).mono ?_
      rintro e w' ⟨rfl, rfl⟩
      go_wp2
      go_ret
      exact ⟨rfl, hB5⟩
    | true =>
      have hs := Hnt2.out hz
      rw [hz] at Hz
      rw [hs] at Hz2
      clear hz hs
      go_wp2_with fail
      refine Hz.out.mono ?_
      rintro e w' ⟨rfl, rfl⟩
      go_wp2_with fail
      refine Hz2.out.mono ?_
      rintro e w9 ⟨rfl, hb9⟩
      have hB9 : Below w.heap.size w w9 := hB5.trans (hb9.mono hB5.size)
      clear hb9
      cases T
      all_goals
        go_wp2_with fail
        refine (alive _).mono ?_
        rintro e w' ⟨rfl, rfl⟩
        go_wp2
        go_ret
        exact ⟨rfl, hB9⟩
  | true =>
    go_wp2_with (first
      | (at_builtin; refine wpList_append_own _ rfl (.tmp 50) (.tmp 51) 23 rfl w4.heap.size TM im (.agg #[.int .i64 0, .int .i64 0]) 2 16 Try.underlying23 Mi.out Mz0.out Mz1.out Mz2.out rfl (by decide) (.slice (some ⟨w4.heap.size, 0, none⟩) 0 0) 0 [] rfl (World.ownsRow_made w4 #[] 0 (Nat.le_refl _) (by unfold maxLen; omega) rfl) ⟨g, 0, none⟩ ms.length cp (mcells ms) rfl (mcells_length _) ((Ho4.out.alloc _).cells (g := g) rfl) (mcells_one _) (by unfold maxLen; omega) (by omega) (by simp) ?_; intro v1 wa hown1 hgr1 _; simp only [Nat.zero_add, List.nil_append] at hown1
         have hGa : w4.grownBy wa none := grown_own (only_alloc (World.grownBy.refl _ _) _) hgr1 (fun k hk => by simp [Value.ownBlock] at hk; omega)
         have hsza : w4.heap.size ≤ wa.heap.size := hGa.size
         have HGa := Lib.hid hGa; have Hown1 := Lib.hid hown1; clear hgr1 hGa hown1)
      | (at_builtin; refine wpList_append_own _ rfl (.tmp 52) (.tmp 54) 23 rfl w4.heap.size TM im (.agg #[.int .i64 0, .int .i64 0]) 2 16 Try.underlying23 Mi.out Mz0.out Mz1.out Mz2.out rfl (by decide) v1 ms.length (mcells ms) rfl (Hown1.out.alloc _) ⟨wa.heap.size, 0, none⟩ 1 1 (mcells [(2, 0)]) rfl (mcells_length _) (news2 _ _ rfl _ _ _) (mcells_one _) (by unfold maxLen; omega) (by omega) (by simp; omega) ?_; intro v2 w5 hown5 hgr5 _
         have hG5 : w4.grownBy w5 none := grown_own (only_alloc HGa.out _) hgr5 (fun k hk => (Hown1.out.lt k hk).1)
         have hB5 : Below w.heap.size w w5 := hB4.trans ((below_none hG5).mono hB4.size)
         have Hx5 := Lib.hid (own_none Hx4.out hG5)
         have HoZ5 : Hid (w5.ownsRow w4.heap.size TM 2 v2 (ms ++ [(2, (0 : Int))]).length (mcells (ms ++ [(2, 0)]))) := by
           unfold Hid
           rw [mcells_append, List.length_append]
           exact hown5
         have HiZ : Hid (I64s (ms ++ [(2, (0 : Int))])) := I64s_append Hi.out (I64s_one (k := 2) (x := 0) (I64_small (by omega) (by omega)) (I64_small (by omega) (by omega)))
         clear hG5 hown5 hgr5)
      | fail)
    have hTX : TX = T := Hmi2.out (by first | rfl | trivial | simp)
    subst hTX
    refine (How2.out _).mono ?_
    rintro e w' ⟨rfl, rfl⟩
    go_wp2_with fail
    refine (Hmm.out _ _ _ (RdMarks.of_own Hx5.out Hxi.out) (Nat.le_refl _)).mono ?_
    rintro e w6 ⟨rfl, hb6⟩
    have HoZ6 := Lib.hid (own_below HoZ5.out hb6)
    have hB6 : Below w.heap.size w w6 := hB5.trans (hb6.mono hB5.size)
    clear hb6
    have Hz := Lib.hid (specTermOk p (ms ++ [(2, 0)]) _ _ _ (RdMarks.of_own HoZ6.out HiZ.out))
    have Hz2 := Lib.hid (implHoldsIn p (ms ++ [(2, 0)]) x _ _ _ (RdMarks.of_own HoZ6.out HiZ.out) (Nat.le_refl _))
    cases hz : termOk p (ms ++ [(2, 0)]) with
    | false =>
      rw [hz] at Hz
      clear hz Hz2
      go_wp2_with fail
      refine Hz.out.mono ?_
      rintro e w' ⟨rfl, rfl⟩
      go_wp2_with fail
      refine (alive _).mono ?_
      rintro e w' ⟨rfl, rfl⟩
      go_wp2
      go_ret
      exact ⟨rfl, hB6⟩
    | true =>
      have hs := Hnt2.out hz
      rw [hz] at Hz
      rw [hs] at Hz2
      clear hz hs
      go_wp2_with fail
      refine Hz.out.mono ?_
      rintro e w' ⟨rfl, rfl⟩
      go_wp2_with fail
      refine Hz2.out.mono ?_
      rintro e w9 ⟨rfl, hb9⟩
      have hB9 : Below w.heap.size w w9 := hB6.trans (hb9.mono hB6.size)
      clear hb9
      cases TX
      all_goals
        go_wp2_with fail
        refine (alive _).mono ?_
        rintro e w' ⟨rfl, rfl⟩
        go_wp2
        go_ret
        exact ⟨rfl, hB9⟩

set_option maxRecDepth 100000 in
theorem lifted (os : Os) (started : os.Started) (H : Type) (enc : TypeId × Value → H) :
    ReturnsInHanded {} Try.checked os 3 .any (Rows.fnHoldsInSpec.pre6 enc Try.prog Try.f3 Rows.fnHoldsInRow.domain false) (Rows.fnHoldsInSpec.post enc Try.prog Try.f3 false true false false) := by
  refine returnsInHanded_of_change (C := Try.checked) Try.own started (by kernel_rfl) Try.func3
    (ChangeSpec.witness6 (enc := enc) (C := Try.checked) false ⟨#[], #[.slice none 0 0], []⟩ 8 (by kernel_rfl) (by kernel_rfl) (by kernel_rfl) (by kernel_rfl)) ?_
  intro W base args ds gs before hval0 hW hcnd _
  have hval : ∀ (j : Nat) t v, Try.f3.params[j]? = some t → args[j]? = some v → Value.okWide Try.prog W .any base t v := hval0
  have hW' := hW
  obtain ⟨p, q, hA0, hV, rfl, hfz, hnd⟩ := hW
  have hA : DataW.TrodAll enc Try.prog W 0 (fun _ => true) true Try.f3.params.toList args.toList ds p := hA0
  rw [Try.params3] at hA hval
  obtain ⟨v0, vs0, d0, ds0, p0, q0, hargs, rfl, rfl, h0, r0⟩ := trodAll_cons hA
  obtain ⟨rfl, rfl, rfl⟩ := trodAll_nil r0
  obtain rfl : args = #[v0] := by cases args; simp_all
  obtain ⟨rfl, rfl⟩ := trodVars_none hV
  obtain ⟨a0, len0, cap0, rfl⟩ := okWide_slice Try.underlying22 (hval 0 22 v0 rfl rfl)
  have k0 := h0
  have lt0 : ∀ x ∈ p0, x.block < W.heap.size := by obtain ⟨m, hm⟩ := k0; exact DataW.trod_lt m _ _ _ hm
  obtain ⟨z0, w0⟩ : ∃ zs, IsRow .u8 W a0 len0 cap0 zs := by
    obtain ⟨fuel, hf⟩ := h0
    rcases open_ints Try.underlying22 Try.underlying5 (by kernel_rfl) hf with ⟨hcs, _⟩ | ⟨x, l, c, zs, hcs, _, hl, hm, hz, _, hcell, hwz⟩
    · simp [Value.cells] at hcs
      obtain ⟨rfl, rfl, rfl⟩ := hcs
      exact ⟨[], .inl ⟨rfl, rfl, rfl, rfl⟩⟩
    · simp [Value.cells] at hcs
      obtain ⟨rfl, rfl, rfl⟩ := hcs
      exact ⟨zs, .inr ⟨_, rfl, hl, hm, by simpa using hz, hcell, hwz⟩⟩
  clear hA0 hval0
  refine (walk _ _ W (RdBytes.of_row w0)).mono fun e W' ⟨he, bel⟩ => ?_
  subst he
  exact ⟨_, rfl, _, _, _, [], _, [], hW', trodAll_mk1 (shut_bool Try.underlying4 _), (trodAll_cons_mk (Below.trod Try.laidOut (by kernel_rfl) (of_decide_eq_true (by kernel_rfl)) k0 bel lt0) trodAll_mk0), rfl, bel.frame _, fun h => by cases h⟩

theorem closed : joinedFacts Try.pinned.checked.prog 3 Try.f3 Rows.fnHoldsInSpec Rows.fnHoldsInRow = true := by
  unfold joinedFacts
  exact (and_tt (and_tt (and_tt (and_tt (and_tt (and_tt (and_tt (and_tt (and_tt (and_tt (and_tt (and_tt (and_tt (and_tt (and_tt (and_tt (and_tt (and_tt (and_tt (and_tt (and_tt (and_tt (and_tt (and_tt (and_tt (and_tt (and_tt (and_tt (and_tt (and_tt (and_tt (by kernel_rfl) (by kernel_rfl)) (by kernel_rfl)) (by kernel_rfl)) (by kernel_rfl)) (by kernel_rfl)) (by kernel_rfl)) (by kernel_rfl)) (by kernel_rfl)) (by kernel_rfl)) (by kernel_rfl)) (by kernel_rfl)) (by kernel_rfl)) (by kernel_rfl)) (by kernel_rfl)) (by kernel_rfl)) (by kernel_rfl)) (by kernel_rfl)) (by kernel_rfl)) (by kernel_rfl)) (by kernel_rfl)) (by kernel_rfl)) (by kernel_rfl)) (by kernel_rfl)) (by kernel_rfl)) Try.mayEnter0) (lifted_tt Try.lifts0 rfl)) (make_tt Try.make0 rfl)) (by kernel_rfl)) (by kernel_rfl)) (by kernel_rfl)) (by kernel_rfl))
theorem over : Rows.fnHoldsInRow.holds Try.pinned (OpenSpec.ofChange Rows.fnHoldsInSpec) :=
  OpenClaim.holds_of_wide 3 Try.f3 rfl rfl rfl rfl rfl rfl rfl ⟨rfl, rfl, rfl, rfl, rfl⟩ rfl rfl rfl rfl rfl (by kernel_rfl) Try.func3 closed
    (of_decide_eq_true (by kernel_rfl)) (by unfold Func.isWrapper; first | (rw [if_pos (by decide +kernel)]; kernel_rfl) | (rw [if_neg (by decide +kernel)]; exact ⟨rfl, rfl⟩))
    (fun os started H enc _ => lifted os started H enc)

theorem proved : Rows.FnHoldsInSaid := over
end Go.Proofs.Ytiakelhpmiffdaa.fnHoldsIn


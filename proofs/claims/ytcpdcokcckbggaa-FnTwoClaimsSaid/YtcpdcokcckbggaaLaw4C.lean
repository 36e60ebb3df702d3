/- A law of stage 4: two claims by one person are one of both or none. It answers true, whatever the code. No condition. -/
import Derived.Test.YtcpdcokcckbggaaDrawS
import Derived.Test.YtcpdcokcckbggaaDrawH
import Derived.Test.YtcpdcokcckbggaaMirrorS
import Derived.Test.YtcpdcokcckbggaaTruthI
import Derived.Test.YtcpdcokcckbggaaClaimI
import Derived.Test.YtcpdcokcckbggaaClaimE
import Derived.Test.YtcpdcokcckbggaaLawsA
import Derived.Deep.RegionHeld3
import Derived.Deep.Cut
namespace Go.Proofs.Ytcpdcokcckbggaa
open Go.RowKit
/-- a story of two claims, just laid -/
theorem story_two (W : World) (k l : Int) (hk : I64 k) (hl : I64 l) {u v : Value} {xs ys : List (Int × Int)} (hu : RdMarks W W.heap.size u xs) (hv : RdMarks W W.heap.size v ys) :
    RdStory (W.alloc (.cells #[.int .i64 k, u, .int .i64 l, v] TC)) (W.heap.size + 1) (.slice (some ⟨W.heap.size, 0, none⟩) 2 2) [(u, (k, xs)), (v, (l, ys))] := by
  have hb : Below W.heap.size W (W.alloc (.cells #[.int .i64 k, u, .int .i64 l, v] TC)) := (Below.refl _ _).alloc (Nat.le_refl _) _
  have hh := heap_alloc_new W (.cells #[.int .i64 k, u, .int .i64 l, v] TC)
  have hr : ∀ {x : Value} {zs : List (Int × Int)}, RdMarks W W.heap.size x zs → RdMarks (W.alloc (.cells #[.int .i64 k, u, .int .i64 l, v] TC)) (W.heap.size + 1) x zs := fun h => (h.below (fun q hq => hb.block q hq)).mono (by omega)
  refine ⟨_, 2, rfl, Nat.le_refl _, by unfold maxLen; omega, ?_, fun j hj => ⟨W.heap.size, 0, rfl, by omega, ?_, ?_⟩⟩
  · intro q hq
    simp at hq
    rcases hq with rfl | rfl
    · exact ⟨hr hu, hk⟩
    · exact ⟨hr hv, hl⟩
  all_goals
    have hj' : j = 0 ∨ j = 1 := by simp at hj; omega
    rcases hj' with rfl | rfl
    all_goals
      rw [cell_of_row _ _ _ _ _ (0, 0) hh]
      rfl
end Go.Proofs.Ytcpdcokcckbggaa
namespace Go.Proofs.Ytcpdcokcckbggaa.fnTwoClaims
open Go.ChangeShapes Go.WideShapes Go.ChangeAt Go.RowKit Go.Joins
attribute [local irreducible] holds tabN tabV holdsV sameV followsV alwaysV matterV mirV mirOk mcells tmOf claimOk mayT mayV ctabV ctabN storyV storyOk storyN storyT ctermV ctermL denyV denyOk ccells
open Go.ChangeMaps (open_string shut_string)
set_option linter.unusedVariables false
set_option maxRecDepth 100000 in
set_option maxHeartbeats 4000000 in
theorem walk (a0 : Value) (n0 : Nat) (w : World) (w0 : RdBytes w w.heap.size a0 n0) :
    Calls Try.prog 10 #[a0] w fun e w' => e = .returned (.bool true) ∧ Below w.heap.size w w' := by
  have hr := w0
  by_cases hbig : n0 ≤ 1048576
  case neg =>
    obtain ⟨ao, cap, rfl, hl, hm, hc⟩ := w0
    have hbig' := code_big hbig
    unfold maxLen at hm
    clear hc hr hbig
    go_enter Try.func10, Try.ntmps10
    go_wp2
    go_ret
    exact ⟨rfl, Below.refl _ _⟩
  have hbig' : (n0 : Int) ≤ 1048576 := by omega
  clear hbig
  obtain ⟨ao, cap, rfl, hl, hm, hc⟩ := w0
  have Hr := Lib.hid hr
  clear hc hr hl hm
  go_enter Try.func10, Try.ntmps10
  go_wp2_with fail
  refine (drawFollowsOk _ _ _ Hr.out).mono ?_
  rintro e w1 ⟨p, ga, ca, gb, cb, xs, ys, hp1, hp8, rfl, hownA, hownB, hiA, hiB, hxl, hyl, hB1⟩
  obtain ⟨im, hmi, hmz0, hmz1, hmz2⟩ := info_parts Try.infoM
  have Mi := Lib.hid hmi; clear hmi
  have Mz0 := Lib.hid hmz0; clear hmz0
  have Mz1 := Lib.hid hmz1; clear hmz1
  have Mz2 := Lib.hid hmz2; clear hmz2
  have HiA := Lib.hid hiA
  have HiB := Lib.hid hiB
  have HoA1 := Lib.hid hownA
  have HoB1 := Lib.hid hownB
  clear hownA hownB hiA hiB
  have hvaf := own_len HoA1.out
  go_upto_region 6 with fail
  obtain ⟨w2, hw2, hx2, hy2, hb2, hs2⟩ := boxes_new w1 (.int .i64 0) (.slice (some ⟨ga, 0, none⟩) xs.length ca) (.int .i64 0) (.slice (some ⟨gb, 0, none⟩) ys.length cb) TC TC
  have HoA2 := Lib.hid (own_below HoA1.out hb2)
  have HoB2 := Lib.hid (own_below HoB1.out hb2)
  have hB2 : Below w.heap.size w w2 := hB1.trans (hb2.mono hB1.size)
  have HX2 := Lib.hid hx2
  have HY2 := Lib.hid hy2
  have aX2 := HX2.out.1
  have bX2 := HX2.out.2.1
  have aY2 := HY2.out.1
  have bY2 := HY2.out.2.1
  rw [← hw2]
  clear hw2 hx2 hy2 hb2 HoA1 HoB1 hB1 hvaf
  go_wp2_with (first
    | (at_builtin; refine wpList_append_own _ rfl (.tmp 23) (.tmp 24) 23 rfl w2.heap.size TM im (.agg #[.int .i64 0, .int .i64 0]) 2 16 Try.underlying23 Mi.out Mz0.out Mz1.out Mz2.out rfl (by decide) (.slice (some ⟨w2.heap.size, 0, none⟩) 0 0) 0 [] rfl (World.ownsRow_made w2 #[] 0 (Nat.le_refl _) (by unfold maxLen; omega) rfl) ⟨ga, 0, none⟩ xs.length ca (mcells xs) rfl (mcells_length _) ((HoA2.out.alloc _).cells (g := ga) rfl) (mcells_one _) (by unfold maxLen; omega) (by omega) (by simp) ?_; intro v1 wa hown1 hgr1 _; simp only [Nat.zero_add, List.nil_append] at hown1
       have hGa : w2.grownBy wa none := grown_own (only_alloc (World.grownBy.refl _ _) _) hgr1 (fun k hk => by simp [Value.ownBlock] at hk; omega)
       have hsza : w2.heap.size ≤ wa.heap.size := hGa.size
       have HoBa := Lib.hid (own_none HoB2.out hGa)
       have HGa := Lib.hid hGa; have Hown1 := Lib.hid hown1; clear hgr1 hGa hown1)
    | (at_builtin; refine wpList_append_own _ rfl (.tmp 25) (.tmp 26) 23 rfl w2.heap.size TM im (.agg #[.int .i64 0, .int .i64 0]) 2 16 Try.underlying23 Mi.out Mz0.out Mz1.out Mz2.out rfl (by decide) v1 xs.length (mcells xs) rfl Hown1.out ⟨gb, 0, none⟩ ys.length cb (mcells ys) rfl (mcells_length _) (HoBa.out.cells (g := gb) rfl) (mcells_one _) (by unfold maxLen; omega) (by omega) (by omega) ?_; intro v2 wb hown2 hgr2 _
       have hGb : w2.grownBy wb none := grown_own HGa.out hgr2 (fun k hk => (Hown1.out.lt k hk).1)
       have hszb : w2.heap.size ≤ wb.heap.size := hGb.size
       have HGb := Lib.hid hGb; have Hown2 := Lib.hid hown2; clear hgr2 hGb hown2)
    | (at_builtin; refine wpList_append_own _ rfl (.tmp 27) (.tmp 29) 23 rfl w2.heap.size TM im (.agg #[.int .i64 0, .int .i64 0]) 2 16 Try.underlying23 Mi.out Mz0.out Mz1.out Mz2.out rfl (by decide) v2 (xs.length + ys.length) (mcells xs ++ mcells ys) rfl (Hown2.out.alloc _) ⟨wb.heap.size, 0, none⟩ 1 1 (mcells [(5, 0)]) rfl (mcells_length _) (news2 _ _ rfl _ _ _) (mcells_one _) (by unfold maxLen; omega) (by omega) (by simp; omega) ?_; intro v3 w3 hown3 hgr3 _
       have hGc : w2.grownBy w3 none := grown_own (only_alloc HGb.out _) hgr3 (fun k hk => (Hown2.out.lt k hk).1)
       have hB3 : Below w.heap.size w w3 := hB2.trans ((below_none hGc).mono hB2.size)
       have HoA3 := Lib.hid (own_none HoA2.out hGc)
       have HoB3 := Lib.hid (own_none HoB2.out hGc)
       have HoZ3 : Hid (w3.ownsRow w2.heap.size TM 2 v3 (xs ++ ys ++ [(5, (0 : Int))]).length (mcells (xs ++ ys ++ [(5, 0)]))) := by
         unfold Hid
         rw [mcells_append, mcells_append, List.length_append, List.length_append]
         exact hown3
       have HiZ : Hid (I64s (xs ++ ys ++ [(5, (0 : Int))])) := I64s_append (I64s_append HiA.out HiB.out) (I64s_one (k := 5) (x := 0) (I64_small (by omega) (by omega)) (I64_small (by omega) (by omega)))
       have HX3 := Lib.hid (HX2.out.grown hGc (by simp)); have HY3 := Lib.hid (HY2.out.grown hGc (by simp)); have aX3 := HX3.out.1; have bX3 := HX3.out.2.1; have aY3 := HY3.out.1; have bY3 := HY3.out.2.1; clear hGc hown3 hgr3 aX2 bX2 aY2 bY2)
    | fail)
  refine (specClaimOk p 0 xs _ _ _ (RdMarks.of_own HoA3.out HiA.out) (Nat.le_refl _)).mono ?_
  rintro e w4 ⟨rfl, hb4⟩
  have HX4 := Lib.hid (HX3.out.below hb4)
  have aX4 := HX4.out.1
  have bX4 := HX4.out.2.1
  have HY4 := Lib.hid (HY3.out.below hb4)
  have aY4 := HY4.out.1
  have bY4 := HY4.out.2.1
  have HoA4 := Lib.hid (own_below HoA3.out hb4)
  have HoB4 := Lib.hid (own_below HoB3.out hb4)
  have HoZ4 := Lib.hid (own_below HoZ3.out hb4)
  have hB4 : Below w.heap.size w w4 := hB3.trans (hb4.mono hB3.size)
  clear hb4 aX3 bX3 aY3 bY3
  have Hct := Lib.hid (fun B u W h h2 => implClaimTable p 0 xs B u W h h2)
  have Htb := Lib.hid (fun B u W h h2 => implTableOf p (xs ++ ys ++ [(5, 0)]) B u W h h2)
  have Hst := Lib.hid (fun B u W h h2 => implStoryTable p [(.slice (some ⟨ga, 0, none⟩) xs.length ca, (0, xs)), (.slice (some ⟨gb, 0, none⟩) ys.length cb, (0, ys))] B u W h h2)
  have Hev : Hid (claimOk p (0, xs) = true → claimOk p (0, ys) = true → termOk p (xs ++ ys ++ [(5, 0)]) = true → ∃ n m s : Nat, ctabV p (0, xs) = (n : Int) ∧ tabV p (xs ++ ys ++ [(5, 0)]) = (m : Int) ∧ storyV p [(0, xs), (0, ys)] = (s : Int) ∧ bits .and .i64 (n : Int) (m : Int) = (s : Int)) := fun h1 h2 h3 => by
    obtain ⟨hp1, hp4⟩ := p_of_claim h1
    have hs : storyOk p [(0, xs), (0, ys)] = true := storyOk_iff.2 ⟨fun c hc => by simp at hc; rcases hc with rfl | rfl <;> assumption, by simp [pOk]; omega, by simp⟩
    refine ⟨_, _, _, ctabV_yes h1, tabV_N h3, storyV_yes hs, ?_⟩
    rw [two_claims h1 h2 h3]
    exact bits_and_nat _ _ (by have := ctabN_lt (c := (0, xs)) hp1 hp4; omega) (by have := tabN_lt h3; omega)
  cases hok : claimOk p (0, xs) with
  | false =>
    clear hok
    go_wp2_with fail
    refine (alive _).mono ?_
    rintro e w' ⟨rfl, rfl⟩
    go_wp2
    go_ret
    exact ⟨rfl, hB4⟩
  | true =>
  go_wp2_with fail
  refine (specClaimOk p 0 ys _ _ _ (RdMarks.of_own HoB4.out HiB.out) (Nat.le_refl _)).mono ?_
  rintro e w5 ⟨rfl, hb5⟩
  have HX5 := Lib.hid (HX4.out.below hb5)
  have aX5 := HX5.out.1
  have bX5 := HX5.out.2.1
  have HY5 := Lib.hid (HY4.out.below hb5)
  have aY5 := HY5.out.1
  have bY5 := HY5.out.2.1
  have HoA5 := Lib.hid (own_below HoA4.out hb5)
  have HoB5 := Lib.hid (own_below HoB4.out hb5)
  have HoZ5 := Lib.hid (own_below HoZ4.out hb5)
  have hB5 : Below w.heap.size w w5 := hB4.trans (hb5.mono hB4.size)
  clear hb5 aX4 bX4 aY4 bY4
  cases hok2 : claimOk p (0, ys) with
  | false =>
    clear hok hok2
    go_wp2_with fail
    refine (alive _).mono ?_
    rintro e w' ⟨rfl, rfl⟩
    go_wp2
    go_ret
    exact ⟨rfl, hB5⟩
  | true =>
  go_wp2_with fail
  refine (specTermOk p (xs ++ ys ++ [(5, 0)]) _ _ _ (RdMarks.of_own HoZ5.out HiZ.out)).mono ?_
  rintro e w' ⟨rfl, rfl⟩
  cases hok3 : termOk p (xs ++ ys ++ [(5, 0)]) with
  | false =>
    clear hok hok2 hok3
    go_wp2_with fail
    refine (alive _).mono ?_
    rintro e w' ⟨rfl, rfl⟩
    go_wp2
    go_ret
    exact ⟨rfl, hB5⟩
  | true =>
  obtain ⟨n, m, s, e1, e2, e3, hand⟩ := Hev.out hok hok2 hok3
  clear hok hok2 hok3 Hev
  rw [e1] at Hct
  rw [e2] at Htb
  have Hst2 : Hid (∀ B u W, RdStory W B u [(.slice (some ⟨ga, 0, none⟩) xs.length ca, (0, xs)), (.slice (some ⟨gb, 0, none⟩) ys.length cb, (0, ys))] → B ≤ W.heap.size → Calls Try.prog 44 #[.int .i64 p, u] W fun e w' => e = .returned (.int .i64 (s : Int)) ∧ Below W.heap.size W w') := by
    intro B u W h h2
    have h3 := Hst.out B u W h h2
    rw [show ([(Value.slice (some ⟨ga, 0, none⟩) xs.length ca, ((0 : Int), xs)), (.slice (some ⟨gb, 0, none⟩) ys.length cb, (0, ys))] : List QC).map (·.2) = [(0, xs), (0, ys)] from rfl, e3] at h3
    exact h3
  have Hrd := Lib.hid (story_two w5 0 0 (I64_small (by omega) (by omega)) (I64_small (by omega) (by omega)) (RdMarks.of_own HoA5.out HiA.out) (RdMarks.of_own HoB5.out HiB.out))
  clear e1 e2 e3 Hst
  go_wp2_with fail
  obtain ⟨w6, hw6⟩ : ∃ w6 : World, w6 = w5.alloc (.cells #[.int .i64 0, .slice (some ⟨ga, 0, none⟩) xs.length ca, .int .i64 0, .slice (some ⟨gb, 0, none⟩) ys.length cb] TC) := ⟨_, rfl⟩
  have hb6 : Below w5.heap.size w5 w6 := by rw [hw6]; exact (Below.refl _ _).alloc (Nat.le_refl _) _
  have HX6 := Lib.hid (HX5.out.below hb6)
  have aX6 := HX6.out.1
  have bX6 := HX6.out.2.1
  have HY6 := Lib.hid (HY5.out.below hb6)
  have aY6 := HY6.out.1
  have bY6 := HY6.out.2.1
  have HoA6 := Lib.hid (own_below HoA5.out hb6)
  have HoB6 := Lib.hid (own_below HoB5.out hb6)
  have HoZ6 := Lib.hid (own_below HoZ5.out hb6)
  have hB6 : Below w.heap.size w w6 := hB5.trans (hb6.mono hB5.size)
  rw [← hw6] at Hrd ⊢
  have hs6 : w5.heap.size + 1 ≤ w6.heap.size := by rw [hw6]; simp
  clear hw6 hb6 aX5 bX5 aY5 bY5
  refine (Hst2.out _ _ _ Hrd.out hs6).mono ?_
  rintro e w7 ⟨rfl, hb7⟩
  have HX7 := Lib.hid (HX6.out.below hb7)
  have aX7 := HX7.out.1
  have bX7 := HX7.out.2.1
  have HY7 := Lib.hid (HY6.out.below hb7)
  have aY7 := HY7.out.1
  have bY7 := HY7.out.2.1
  have HoA7 := Lib.hid (own_below HoA6.out hb7)
  have HoB7 := Lib.hid (own_below HoB6.out hb7)
  have HoZ7 := Lib.hid (own_below HoZ6.out hb7)
  have hB7 : Below w.heap.size w w7 := hB6.trans (hb7.mono hB6.size)
  clear hb7 aX6 bX6 aY6 bY6
  go_wp2_with fail
  refine (alive _).mono ?_
  rintro e w' ⟨rfl, rfl⟩
  go_wp2_with fail
  refine (Hct.out _ _ _ (RdMarks.of_own HoA7.out HiA.out) (Nat.le_refl _)).mono ?_
  rintro e w8 ⟨rfl, hb8⟩
  have HX8 := Lib.hid (HX7.out.below hb8)
  have aX8 := HX8.out.1
  have bX8 := HX8.out.2.1
  have HY8 := Lib.hid (HY7.out.below hb8)
  have aY8 := HY8.out.1
  have bY8 := HY8.out.2.1
  have HoA8 := Lib.hid (own_below HoA7.out hb8)
  have HoB8 := Lib.hid (own_below HoB7.out hb8)
  have HoZ8 := Lib.hid (own_below HoZ7.out hb8)
  have hB8 : Below w.heap.size w w8 := hB7.trans (hb8.mono hB7.size)
  clear hb8 aX7 bX7 aY7 bY7
  go_wp2_with fail
  refine (Htb.out _ _ _ (RdMarks.of_own HoZ8.out HiZ.out) (Nat.le_refl _)).mono ?_
  rintro e w9 ⟨rfl, hb9⟩
  have HX9 := Lib.hid (HX8.out.below hb9)
  have aX9 := HX9.out.1
  have bX9 := HX9.out.2.1
  have HY9 := Lib.hid (HY8.out.below hb9)
  have aY9 := HY9.out.1
  have bY9 := HY9.out.2.1
  have HoA9 := Lib.hid (own_below HoA8.out hb9)
  have HoB9 := Lib.hid (own_below HoB8.out hb9)
  have HoZ9 := Lib.hid (own_below HoZ8.out hb9)
  have hB9 : Below w.heap.size w w9 := hB8.trans (hb9.mono hB8.size)
  clear hb9 aX8 bX8 aY8 bY8
  go_wp2
  go_ret
  exact ⟨rfl, hB9⟩

set_option maxRecDepth 100000 in
theorem lifted (os : Os) (started : os.Started) (H : Type) (enc : TypeId × Value → H) :
    ReturnsInHanded {} Try.checked os 10 .any (Rows.fnTwoClaimsSpec.pre6 enc Try.prog Try.f10 Rows.fnTwoClaimsRow.domain false) (Rows.fnTwoClaimsSpec.post enc Try.prog Try.f10 false true false false) := by
  refine returnsInHanded_of_change (C := Try.checked) Try.own started (by kernel_rfl) Try.func10
    (ChangeSpec.witness6 (enc := enc) (C := Try.checked) false ⟨#[], #[.slice none 0 0], []⟩ 8 (by kernel_rfl) (by kernel_rfl) (by kernel_rfl) (by kernel_rfl)) ?_
  intro W base args ds gs before hval0 hW hcnd _
  have hval : ∀ (j : Nat) t v, Try.f10.params[j]? = some t → args[j]? = some v → Value.okWide Try.prog W .any base t v := hval0
  have hW' := hW
  obtain ⟨p, q, hA0, hV, rfl, hfz, hnd⟩ := hW
  have hA : DataW.TrodAll enc Try.prog W 0 (fun _ => true) true Try.f10.params.toList args.toList ds p := hA0
  rw [Try.params10] at hA hval
  obtain ⟨v0, vs0, d0, ds0, p0, q0, hargs, rfl, rfl, h0, r0⟩ := trodAll_cons hA
  obtain ⟨rfl, rfl, rfl⟩ := trodAll_nil r0
  obtain rfl : args = #[v0] := by cases args; simp_all
  obtain ⟨rfl, rfl⟩ := trodVars_none hV
  obtain ⟨a0, len0, cap0, rfl⟩ := okWide_slice Try.underlying22 (hval 0 22 v0 rfl rfl)
  have k0 := h0
  have lt0 : ∀ x ∈ p0, x.block < W.heap.size := by obtain ⟨m, hm⟩ := k0; exact DataW.trod_lt m _ _ _ hm
  obtain ⟨z0, w0⟩ : ∃ zs, IsRow .u8 W a0 len0 cap0 zs := by
    obtain ⟨fuel, hf⟩ := h0
    rcases open_ints Try.underlying22 Try.underlying5 (by kernel_rfl) hf with ⟨hcs, _⟩ | ⟨x, l, c, zs, hcs, _, hl, hm, hz, _, hcell, hwz⟩
    · simp [Value.cells] at hcs
      obtain ⟨rfl, rfl, rfl⟩ := hcs
      exact ⟨[], .inl ⟨rfl, rfl, rfl, rfl⟩⟩
    · simp [Value.cells] at hcs
      obtain ⟨rfl, rfl, rfl⟩ := hcs
      exact ⟨zs, .inr ⟨_, rfl, hl, hm, by simpa using hz, hcell, hwz⟩⟩
  clear hA0 hval0
  refine (walk _ _ W (RdBytes.of_row w0)).mono fun e W' ⟨he, bel⟩ => ?_
  subst he
  exact ⟨_, rfl, _, _, _, [], _, [], hW', trodAll_mk1 (shut_bool Try.underlying4 _), (trodAll_cons_mk (Below.trod Try.laidOut (by kernel_rfl) (of_decide_eq_true (by kernel_rfl)) k0 bel lt0) trodAll_mk0), rfl, bel.frame _, fun h => by cases h⟩

theorem closed : joinedFacts Try.pinned.checked.prog 10 Try.f10 Rows.fnTwoClaimsSpec Rows.fnTwoClaimsRow = true := by
  unfold joinedFacts
  exact (and_tt (and_tt (and_tt (and_tt (and_tt (and_tt (and_tt (and_tt (and_tt (and_tt (and_tt (and_tt (and_tt (and_tt (and_tt (and_tt (and_tt (and_tt (and_tt (and_tt (and_tt (and_tt (and_tt (and_tt (and_tt (and_tt (and_tt (and_tt (and_tt (and_tt (and_tt (by kernel_rfl) (by kernel_rfl)) (by kernel_rfl)) (by kernel_rfl)) (by kernel_rfl)) (by kernel_rfl)) (by kernel_rfl)) (by kernel_rfl)) (by kernel_rfl)) (by kernel_rfl)) (by kernel_rfl)) (by kernel_rfl)) (by kernel_rfl)) (by kernel_rfl)) (by kernel_rfl)) (by kernel_rfl)) (by kernel_rfl)) (by kernel_rfl)) (by kernel_rfl)) (by kernel_rfl)) (by kernel_rfl)) (by kernel_rfl)) (by kernel_rfl)) (by kernel_rfl)) (by kernel_rfl)) Try.mayEnter0) (lifted_tt Try.lifts0 rfl)) (make_tt Try.make0 rfl)) (by kernel_rfl)) (by kernel_rfl)) (by kernel_rfl)) (by kernel_rfl))
theorem over : Rows.fnTwoClaimsRow.holds Try.pinned (OpenSpec.ofChange Rows.fnTwoClaimsSpec) :=
  OpenClaim.holds_of_wide 10 Try.f10 rfl rfl rfl rfl rfl rfl rfl ⟨rfl, rfl, rfl, rfl, rfl⟩ rfl rfl rfl rfl rfl (by kernel_rfl) Try.func10 closed
    (of_decide_eq_true (by kernel_rfl)) (by unfold Func.isWrapper; first | (rw [if_pos (by decide +kernel)]; kernel_rfl) | (rw [if_neg (by decide +kernel)]; exact ⟨rfl, rfl⟩))
    (fun os started H enc _ => lifted os started H enc)

theorem proved : Rows.FnTwoClaimsSaid := over
end Go.Proofs.Ytcpdcokcckbggaa.fnTwoClaims


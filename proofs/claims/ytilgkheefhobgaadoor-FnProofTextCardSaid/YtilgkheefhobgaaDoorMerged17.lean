/- Texts of a proof, merged: ProveV, ProveW, ProveX, Text, TextM. -/
import Derived.Test.YtilgkheefhobgaaDoorProveU
import Derived.Test.YtilgkheefhobgaaDoorMarks
import Derived.Deep.RegionHeld3
import Derived.IntWalk
/- Contracts of the reference's proofs by cases: what is grown. -/
namespace Go.Proofs.YtilgkheefhobgaaDoor
open Go.RowKit Go.Joins
abbrev TSp : TypeId := 65
abbrev TSl : TypeId := 25
theorem Tryd.infoSp : (Tryd.prog.info? TSp).map (fun i => (i.zero, i.size, i.bytes)) = some (some (.agg #[.int .i64 0, .int .i64 0, .int .i64 0]), 3, 24) := by kernel_rfl
theorem clash_first {P : Nat} {hf : Nat → Bool} {cl : List (Nat → Bool)} {kn : List Int} {k : Nat} (hk : k < cl.length) (h : ∀ i, i < k → closeB P hf cl (-2 - (i : Int)) kn = false) (hc : closeB P hf cl (-2 - (k : Int)) kn = true) : clashF P hf cl kn = some k := by
  unfold clashF
  rw [List.find?_range_eq_some]
  exact ⟨hc, List.mem_range.2 hk, fun j hj => by rw [h j hj]; rfl⟩
theorem clash_all {P : Nat} {hf : Nat → Bool} {cl : List (Nat → Bool)} {kn : List Int} (h : ∀ i, i < cl.length → closeB P hf cl (-2 - (i : Int)) kn = false) : clashF P hf cl kn = none := by
  unfold clashF
  rw [List.find?_eq_none]
  intro k hk
  rw [h k (List.mem_range.1 hk)]; decide
theorem least_first {P : Nat} {kn : List Int} {k : Nat} (hk : k < P) (h : ∀ i, i < k → ¬ kn.getD i 0 < 0) (hn : kn.getD k 0 < 0) : leastU P kn = some k := by
  unfold leastU
  rw [List.find?_range_eq_some]
  exact ⟨decide_eq_true hn, List.mem_range.2 hk, fun j hj => by rw [decide_eq_false (h j hj)]; rfl⟩
theorem least_all11 {P : Nat} {kn : List Int} (h : ∀ i, i < P → ¬ kn.getD i 0 < 0) : leastU P kn = none := by
  unfold leastU
  rw [List.find?_eq_none]
  intro k hk
  rw [decide_eq_false (h k (List.mem_range.1 hk))]; decide
/-- the least who is not known, of those from a place on -/
def WhoP (P : Nat) (kn : List Int) (i : Nat) (z : Int) : Prop := (z = -1 ∧ ∀ j, i ≤ j → j < P → ¬ kn.getD j 0 < 0) ∨ ∃ j : Nat, z = j ∧ i ≤ j ∧ j < P ∧ kn.getD j 0 < 0 ∧ ∀ l, i ≤ l → l < j → ¬ kn.getD l 0 < 0
theorem who_start (P : Nat) (kn : List Int) : WhoP P kn P (-1) := .inl ⟨rfl, fun j h1 h2 => by omega⟩
theorem who_yes {P : Nat} {kn : List Int} {i : Nat} (hi : i < P) (h : kn.getD i 0 < 0) : WhoP P kn i i := .inr ⟨i, rfl, Nat.le_refl _, hi, h, fun l h1 h2 => by omega⟩
theorem who_no {P : Nat} {kn : List Int} {i : Nat} {z : Int} (h : WhoP P kn (i + 1) z) (hn : ¬ kn.getD i 0 < 0) : WhoP P kn i z := by
  rcases h with ⟨h1, h2⟩ | ⟨j, h1, h2, h3, h4, h5⟩
  · refine .inl ⟨h1, fun j h3 h4 => ?_⟩
    by_cases hj : j = i
    · subst hj; exact hn
    · exact h2 j (by omega) h4
  · refine .inr ⟨j, h1, by omega, h3, h4, fun l h6 h7 => ?_⟩
    by_cases hl : l = i
    · subst hl; exact hn
    · exact h5 l (by omega) h7
theorem who_end {P : Nat} {kn : List Int} {z : Int} (h : WhoP P kn 0 z) : (z < 0 ∧ leastU P kn = none) ∨ ∃ k : Nat, z = k ∧ k < P ∧ leastU P kn = some k ∧ kn.getD k 0 < 0 := by
  rcases h with ⟨h1, h2⟩ | ⟨j, h1, _, h3, h4, h5⟩
  · exact .inl ⟨by omega, least_all11 fun i hi => h2 i (by omega) hi⟩
  · exact .inr ⟨j, h1, h3, least_first h3 (fun i hi => h5 i (by omega) hi) h4, h4⟩
theorem add_zero11 (g j : Nat) : (⟨g, 0, none⟩ : Addr).add j = ⟨g, j, none⟩ := by simp [Addr.add]; omega
/-- splits behind an empty row, and one more: a copy with one more -/
theorem split_runs (w : World) (base : Nat) (v : Value) (sp : List Sp3) (k : Int) (ho : w.ownsRow base TSp 3 v sp.length (scells sp)) (hl : sp.length ≤ 20) :
    ∃ (f2 : Option Addr) (g2 : Nat) (w2 : World) (g cp : Nat) (w4 : World),
      (Builtin.append_ #[TSl, TSl] TSl #[.slice (some ⟨w.heap.size, 0, none⟩) 0 0, v]).run Tryd.prog (w.alloc (.cells #[] TSp)) = .ok (.slice f2 sp.length g2) w2 ∧
      (Builtin.append_ #[TSl, TSl] TSl #[.slice f2 sp.length g2, .slice (some ⟨w2.heap.size, 0, none⟩) 1 1]).run Tryd.prog (w2.alloc (.cells #[.int .i64 k, .int .i64 (-1), .int .i64 (-1)] TSp)) = .ok (.slice (some ⟨g, 0, none⟩) (sp.length + 1) cp) w4 ∧
      w4.ownsRow w.heap.size TSp 3 (.slice (some ⟨g, 0, none⟩) (sp.length + 1) cp) (sp.length + 1) (scells (sp ++ [(k, -1, -1)])) ∧ Below w.heap.size w w4 := by
  obtain ⟨ii, hii, hz0, hz1, hz2⟩ := info_parts Tryd.infoSp
  have hb1 : Below w.heap.size w (w.alloc (.cells #[] TSp)) := (Below.refl _ _).alloc (Nat.le_refl _) _
  have hmade : (w.alloc (.cells #[] TSp)).ownsRow w.heap.size TSp 3 (.slice (some ⟨w.heap.size, 0, none⟩) 0 0) 0 [] := World.ownsRow_made _ _ 0 (Nat.le_refl _) (by unfold maxLen; omega) rfl
  have first : ∃ v2 w2, (Builtin.append_ #[TSl, TSl] TSl #[.slice (some ⟨w.heap.size, 0, none⟩) 0 0, v]).run Tryd.prog (w.alloc (.cells #[] TSp)) = .ok v2 w2 ∧ w2.ownsRow w.heap.size TSp 3 v2 sp.length (scells sp) ∧ Below w.heap.size w w2 := by
    have hlen := ho.1
    rcases ho.2 with ⟨rfl, h0⟩ | ⟨g, cap, cur, rfl, hbg, hg, _⟩
    · have : sp = [] := List.eq_nil_of_length_eq_zero h0
      subst this
      exact ⟨_, _, run_append_owned_none (P := Tryd.prog) (w := w.alloc (.cells #[] TSp)) w.heap.size TSl TSl TSp ii 3 Tryd.underlying25 hii _ _ _ hmade, hmade, hb1⟩
    · have hgl : g < w.heap.size := (Array.getElem?_eq_some_iff.1 hg).1
      have hnews : ∀ (j : Nat) (x : Value), (scells sp)[j]? = some x → (w.alloc (.cells #[] TSp)).cell? ((⟨g, 0, none⟩ : Addr).add j) = some x := by
        intro j x hj
        have hjl := (List.getElem?_eq_some_iff.1 hj).1
        rw [hlen] at hjl
        rw [add_zero11, hb1.cell (p := ⟨g, j, none⟩) hgl, ho.cellAt j hjl, hj]
      obtain ⟨v', w', hrun, hown, hgr, _, _⟩ := run_append_own_at (P := Tryd.prog) (w.alloc (.cells #[] TSp)) w.heap.size TSl TSl TSp ii _ 3 24 Tryd.underlying25 hii hz0 hz1 hz2 rfl (by decide) _ _ _ hmade ⟨g, 0, none⟩ sp.length cap (scells sp) (scells_length sp) hnews (scells_one sp) (by unfold maxLen; omega) (by omega) hb1.size
      have hb2 := hb1.grown hgr hb1.size (fun q hq => (hmade.lt q hq).1)
      rw [Nat.zero_add, List.nil_append] at hown
      exact ⟨v', w', hrun, hown, hb2⟩
  obtain ⟨v2, w2, hrun2, hown2, hb2⟩ := first
  obtain ⟨f2, g2, rfl⟩ := own_len hown2
  have hb3 : Below w.heap.size w (w2.alloc (.cells #[.int .i64 k, .int .i64 (-1), .int .i64 (-1)] TSp)) := hb2.alloc hb2.size _
  have hown3 := hown2.alloc (.cells #[.int .i64 k, .int .i64 (-1), .int .i64 (-1)] TSp)
  have hnews : ∀ (j : Nat) (x : Value), (scells [(k, -1, -1)])[j]? = some x → (w2.alloc (.cells #[.int .i64 k, .int .i64 (-1), .int .i64 (-1)] TSp)).cell? ((⟨w2.heap.size, 0, none⟩ : Addr).add j) = some x := by
    intro j x hj
    rw [add_zero11, cell_of_row _ w2.heap.size j _ TSp (0, 0) (heap_alloc_new w2 _), ← hj]
    simp [scells]
  obtain ⟨v4, w4, hrun4, hown4, hgr4, _, _⟩ := run_append_own_at (P := Tryd.prog) (w2.alloc (.cells #[.int .i64 k, .int .i64 (-1), .int .i64 (-1)] TSp)) w.heap.size TSl TSl TSp ii _ 3 24 Tryd.underlying25 hii hz0 hz1 hz2 rfl (by decide) _ _ _ hown3 ⟨w2.heap.size, 0, none⟩ 1 1 (scells [(k, -1, -1)]) (by rw [scells_length]; rfl) hnews (scells_one _) (by unfold maxLen; omega) (by omega) hb3.size
  have hb4 := hb3.grown hgr4 hb3.size (fun q hq => (hown3.lt q hq).1)
  rw [← scells_append] at hown4
  rcases hown4.2 with ⟨_, h0⟩ | ⟨g, cp, cur, rfl, _⟩
  · omega
  · exact ⟨f2, g2, w2, g, cp, w4, hrun2, hrun4, hown4, hb4⟩
theorem scells_set_at (s : List Sp3) (m : Nat) (hm : m < s.length) (z : Sp3) : (((scells s).set (m * 3) (.int .i64 z.1)).set (m * 3 + 1) (.int .i64 z.2.1)).set (m * 3 + 2) (.int .i64 z.2.2) = scells (s.set m z) := by
  have h := scells_set (s.take m) (s.drop (m + 1)) s[m] z m (by rw [List.length_take]; omega)
  rw [← List.drop_eq_getElem_cons hm, List.take_append_drop] at h
  rw [h, List.set_eq_take_append_cons_drop, if_pos hm]
/-- a split stored into a row of the call's own -/
theorem split_stored {w : World} {base g cp n : Nat} {s : List Sp3} (h : w.ownsRow base TSp 3 (.slice (some ⟨g, 0, none⟩) n cp) n (scells s)) (hn : s.length = n) (m : Nat) (hm : m < n) (z : Sp3) :
    (((w.setCell ⟨g, m * 3, none⟩ (.int .i64 z.1)).setCell ⟨g, m * 3 + 1, none⟩ (.int .i64 z.2.1)).setCell ⟨g, m * 3 + 2, none⟩ (.int .i64 z.2.2)).ownsRow base TSp 3 (.slice (some ⟨g, 0, none⟩) n cp) n (scells (s.set m z)) ∧
      Below base w (((w.setCell ⟨g, m * 3, none⟩ (.int .i64 z.1)).setCell ⟨g, m * 3 + 1, none⟩ (.int .i64 z.2.1)).setCell ⟨g, m * 3 + 2, none⟩ (.int .i64 z.2.2)) ∧
      (∃ a b c, w.cell? ⟨g, m * 3, none⟩ = some a ∧ w.cell? ⟨g, m * 3 + 1, none⟩ = some b ∧ w.cell? ⟨g, m * 3 + 2, none⟩ = some c) ∧
      w.frozen? ⟨g, m * 3, none⟩ = false ∧ w.frozen? ⟨g, m * 3 + 1, none⟩ = false ∧ w.frozen? ⟨g, m * 3 + 2, none⟩ = false := by
  have h1 := (h.stored (m * 3) (.int .i64 z.1)).1
  have h2 := (h1.stored (m * 3 + 1) (.int .i64 z.2.1)).1
  have h3 := (h2.stored (m * 3 + 2) (.int .i64 z.2.2)).1
  rw [scells_set_at s m (by omega) z] at h3
  have hg := (h.lt g rfl).1
  obtain ⟨c1, c2, c3⟩ := scells_get s m (by omega)
  refine ⟨h3, (((Below.refl base w).setCell (p := ⟨g, m * 3, none⟩) hg _).setCell (p := ⟨g, m * 3 + 1, none⟩) hg _).setCell (p := ⟨g, m * 3 + 2, none⟩) hg _, ⟨_, _, _, (h.cellAt (m * 3) (by omega)).trans c1, (h.cellAt (m * 3 + 1) (by omega)).trans c2, (h.cellAt (m * 3 + 2) (by omega)).trans c3⟩, h.frozenAt _, h.frozenAt _, h.frozenAt _⟩
/-- what a call hands back that grows splits -/
def GrowOut (base : Nat) (r : List Sp3 × Int × Bool) (w : World) (e : Ending) (w' : World) : Prop := ∃ v, e = .returned (.tuple #[v, .int .i64 r.2.1, .bool r.2.2]) ∧ w'.ownsRow base TSp 3 v r.1.length (scells r.1) ∧ Below w.heap.size w w'
def GrowC (F P : Nat) (qs : List QC) (ms : List (Int × Int)) (f : Nat) : Prop := ∀ (kn : List Int), kn.length = P → unkN P kn ≤ f → ∀ (sp : List Sp3), sp.length + 2 ^ unkN P kn ≤ 17 → ∀ (B base : Nat) (v u kv sv : Value) (w : World), RdStory w B v qs → RdMarks w B u ms → RdInts w B kv kn → B ≤ w.heap.size → w.ownsRow base TSp 3 sv sp.length (scells sp) → base ≤ w.heap.size →
    Calls Tryd.prog F #[.int .i64 (P : Int), v, u, kv, sv] w (GrowOut base (growR P (hfV P ms) (clL P (qs.map (·.2))) f kn sp) w)
end Go.Proofs.YtilgkheefhobgaaDoor
/- Contract of the reference's l11Grow. -/
namespace Go.Proofs.YtilgkheefhobgaaDoor
open Go.RowKit Go.Joins
attribute [local irreducible] holds tabN tabV holdsV sameV followsV alwaysV matterV claimOk mayT mayV ctabV ctabN storyV storyOk storyN storyT ctermV ctermL followsF agreeN agreeB closeB chkN checks nextOk ints hfV clL provesF onceB proofV noneK growR clashF leastU unkN scells WhoP
set_option maxRecDepth 100000 in
set_option maxHeartbeats 8000000 in
theorem specGrow_step (P : Nat) (qs : List QC) (ms : List (Int × Int)) (hok : storyOk (P : Int) (qs.map (·.2)) = true) (ht : termOk (P : Int) ms = true) (f : Nat) (ih : ∀ f', f = f' + 1 → GrowC 54 P qs ms f') : GrowC 54 P qs ms f := by
  intro kn hl hu sp hs B base v u kv sv w hr hr' hk hB hown hbase
  obtain ⟨h1, h4⟩ := p_of ht
  have hlq := (storyOk_iff.1 hok).2.2
  rw [List.length_map] at hlq
  have hcll : (clL (P : Int) (qs.map (·.2))).length = qs.length := by rw [clL_len, List.length_map]
  have hcg := fun w h h' hk hB => specCloses P qs ms hok ht kn hl (-1) (by omega) (by omega) B v u kv w h h' hk hB
  have hcc := fun (j : Nat) (hj : j < qs.length) w h h' hk hB => specCloses P qs ms hok ht kn hl (-2 - (j : Int)) (by omega) (by omega) B v u kv w h h' hk hB
  have hR0 := fun h => growR_goal (P := P) (hf := hfV P ms) (cl := clL P (qs.map (·.2))) (f := f) (kn := kn) (sp := sp) h
  have hR1 := fun (k : Nat) hg hk h hc => growR_claim (P := P) (hf := hfV P ms) (cl := clL P (qs.map (·.2))) (f := f) (kn := kn) (sp := sp) (k := k) hg (clash_first hk h hc)
  have hR2 := fun hg h hl => growR_none (P := P) (hf := hfV P ms) (cl := clL P (qs.map (·.2))) (f := f) (kn := kn) (sp := sp) hg (clash_all h) hl
  have hR3 : ∀ (f' k : Nat), f = f' + 1 → closeB P (hfV P ms) (clL P (qs.map (·.2))) (-1) kn = false → (∀ i, i < (clL P (qs.map (·.2))).length → closeB P (hfV P ms) (clL P (qs.map (·.2))) (-2 - (i : Int)) kn = false) → leastU P kn = some k →
      ∀ r1 r2 : List Sp3 × Int × Bool, growR P (hfV P ms) (clL P (qs.map (·.2))) f' (kn.set k 0) (sp ++ [((k : Int), -1, -1)]) = r1 → growR P (hfV P ms) (clL P (qs.map (·.2))) f' (kn.set k 1) r1.1 = r2 → growR P (hfV P ms) (clL P (qs.map (·.2))) f kn sp = (r2.1.set sp.length ((k : Int), r1.2.1, r2.2.1), (sp.length : Int), r1.2.2 && r2.2.2) := by
    intro f' k hff hg h hl r1 r2 h1 h2
    subst hff
    exact growR_node hg (clash_all h) hl h1 h2
  have hlen1 := fun (f' : Nat) (kn' : List Int) (sp' : List Sp3) (hl' : kn'.length = P) => growR_len (P := P) (hf := hfV P ms) (cl := clL P (qs.map (·.2))) f' kn' sp' hl'
  have ih' := ih
  unfold GrowC at ih'
  generalize hfV (P : Int) ms = hf at *
  generalize clL (P : Int) (qs.map (·.2)) = cl at *
  rw [hcll] at hR1 hR2 hR3
  clear hok ht ih
  obtain ⟨C, hC⟩ : ∃ C : Nat → Bool, C = fun j : Nat => closeB P hf cl (-2 - (j : Int)) kn := ⟨_, rfl⟩
  have hCj : ∀ j : Nat, closeB P hf cl (-2 - (j : Int)) kn = C j := fun j => by rw [hC]
  simp only [hCj] at hcc hR1 hR2 hR3
  clear hC hCj
  have Hcg := Lib.hid hcg; clear hcg
  have Hcc := Lib.hid hcc; clear hcc
  have HR0 := Lib.hid hR0; clear hR0
  have HR1 := Lib.hid hR1; clear hR1
  have HR2 := Lib.hid hR2; clear hR2
  have HR3 := Lib.hid hR3; clear hR3
  have Hlen1 := Lib.hid hlen1; clear hlen1
  have Hih := Lib.hid ih'; clear ih'
  have Hs := Lib.hid hs; clear hs
  have Hu := Lib.hid hu; clear hu
  have Hl := Lib.hid hl
  obtain ⟨qo, qcap, rfl, hqle, hqm, _⟩ := id hr
  have Hr := Lib.hid hr
  have Hr' := Lib.hid hr'
  have Hk := Lib.hid hk
  obtain ⟨ko, kcap, rfl, hkle, hkm, hkc⟩ := hk
  have Hkc := Lib.hid hkc; clear hkc
  have Hown := Lib.hid hown
  obtain ⟨so, scap, rfl⟩ := own_len hown
  unfold maxLen at hqm hkm
  rw [hl] at hkle Hk Hkc Hcg Hcc ⊢
  clear hr hr' hown hl hcll
  obtain ⟨wo, rfl⟩ : ∃ wo : World, wo = w := ⟨_, rfl⟩
  unfold GrowOut
  generalize hR : growR P hf cl f kn sp = R at *
  cases hg : closeB P hf cl (-1) kn with
  | true =>
    have HR := Lib.hid (HR0.out hg)
    rw [hg] at Hcg
    clear HR0 HR1 HR2 HR3 hg hR Hih Hlen1 Hcc
    generalize hn : qs.length = n at *
    clear hn
    generalize hm : sp.length = m at *
    go_enter Tryd.func54, Tryd.ntmps54
    go_wp2_with fail
    refine (Hcg.out _ Hr.out Hr'.out Hk.out hB).mono ?_
    rintro e w2 ⟨rfl, hb2⟩
    have Hb2 := Lib.hid hb2
    have Ho2 := Lib.hid (own_below Hown.out hb2); clear hb2
    go_wp2
    go_ret3
    rw [HR.out]
    exact ⟨_, rfl, by dsimp only; rw [hm]; exact Ho2.out, Hb2.out⟩
  | false =>
  have HR1' := Lib.hid (fun k hk h hc => HR1.out k hg hk h hc)
  have HR2' := Lib.hid (fun h hl => HR2.out hg h hl)
  have HR3' := Lib.hid (fun f' k hff h hl r1 r2 h1 h2 => HR3.out f' k hff hg h hl r1 r2 h1 h2)
  rw [hg] at Hcg
  clear HR0 HR1 HR2 HR3 hg
  generalize hn : qs.length = n at *
  have Hn := Lib.hid hn; clear hn
  generalize hm : sp.length = m at *
  have Hm := Lib.hid hm; clear hm hR
  go_enter Tryd.func54, Tryd.ntmps54
  go_wp2_with fail
  refine (Hcg.out _ Hr.out Hr'.out Hk.out hB).mono ?_
  rintro e w2 ⟨rfl, hb2⟩
  have Hb2 := Lib.hid hb2; clear hb2 Hcg
  go_wp2
  go_loopw [14] (fun i wr => ∃ j : Nat, j ≤ n ∧ i = .int .i64 j ∧ Hid (∀ i, i < j → C i = false) ∧ Below wo.heap.size wo wr) (fun i _ => n - (intOf i).toNat)
  case atStart => exact ⟨0, Nat.zero_le _, rfl, fun i hi => by omega, Hb2.out⟩
  case round =>
    obtain ⟨j, hj, rfl, hall, hbr⟩ := hrel
    have hsr := hbr.size
    have Hr3 := Lib.hid (Hr.out.below (w' := wr) (fun q hq => hbr.block q (by omega)))
    have Hm3 := Lib.hid (Hr'.out.below (w' := wr) (fun q hq => hbr.block q (by omega)))
    have Hk3 := Lib.hid (Hk.out.below (w' := wr) (fun q hq => hbr.block q (by omega)))
    have Ho3 := Lib.hid (own_below Hown.out hbr)
    have hB3 : B ≤ wr.heap.size := by omega
    have Hbr := Lib.hid hbr
    clear hbr
    by_cases hlt : j < n
    · have hwj : IntKind.i64.wrap (-2 - (j : Int)) = -2 - (j : Int) := IntWalk.i64_in _ (by omega)
      have Hcall := Lib.hid (Hcc.out j hlt _ Hr3.out Hm3.out Hk3.out hB3)
      go_wp2_with fail
      refine Hcall.out.mono ?_
      rintro e w4 ⟨rfl, hb4⟩
      have Hb4 := Lib.hid (Hbr.out.trans (hb4.mono hsr))
      have Ho4 := Lib.hid (own_below Ho3.out hb4)
      clear hb4 Hcall
      cases hc : C j with
      | true =>
        have HR := Lib.hid (HR1'.out j hlt hall.out hc)
        clear hc
        go_wp2
        go_ret3
        rw [HR.out]
        exact ⟨_, rfl, by dsimp only; rw [Hm.out]; exact Ho4.out, Hb4.out⟩
      | false =>
        have Hall : Hid (∀ i, i < j + 1 → C i = false) := fun i hi => by
          by_cases hij : i = j
          · subst hij; exact hc
          · exact hall.out i (by omega)
        clear hc
        go_wp2
        go_roundw
        case rel => exact ⟨j + 1, by omega, by go_num, Hall.out, Hb4.out⟩
        case measure => simp [intOf]; omega
    · obtain rfl : j = n := by omega
      have HN := Lib.hid (fun hl => HR2'.out hall.out hl)
      have HD := Lib.hid (fun f' k hff hl r1 r2 h1 h2 => HR3'.out f' k hff hall.out hl r1 r2 h1 h2)
      clear HR1' HR2' HR3' Hcc hall hlt hj Hr Hr' Hk Hown Hb2
      have hPp : IntKind.i64.wrap ((P : Int) - 1) = (P : Int) - 1 := IntWalk.i64_in _ (by omega)
      go_wp2
      go_loopw [13, 15] (fun a i wr' => ∃ (c : Nat) (z : Int), c ≤ P ∧ i = .int .i64 ((c : Int) - 1) ∧ a = .int .i64 z ∧ Hid (WhoP P kn c z) ∧ wr = wr') (fun _ i _ => (intOf i + 1).toNat)
      case atStart => exact ⟨P, -1, Nat.le_refl _, rfl, rfl, who_start P kn, rfl⟩
      case round =>
        obtain ⟨c, z, hc, rfl, rfl, hwho, rfl⟩ := hrel
        cases c with
        | succ c =>
          have e1 : ((c + 1 : Nat) : Int) - 1 = (c : Int) := by omega
          rw [e1]
          have hcP : c < P := by omega
          obtain ⟨kb, koff, rfl, hkb, hcell0⟩ := Hkc.out c hcP
          have hcell := (Hbr.out.cell (p := ⟨kb, koff + c, none⟩) (show kb < wo.heap.size by omega)).trans hcell0
          have hwc : IntKind.i64.wrap ((c : Int) - 1) = (c : Int) - 1 := IntWalk.i64_in _ (by omega)
          clear hcell0 e1
          by_cases hz : kn.getD c 0 < 0
          · have Hw := Lib.hid (who_yes hcP hz)
            generalize kn.getD c 0 = y at *
            go_wp2
            go_roundw
            case rel => exact ⟨c, c, by omega, by go_num, by trivial, Hw.out, by trivial⟩
            case measure => simp [intOf]
          · have Hw := Lib.hid (who_no hwho.out hz)
            generalize kn.getD c 0 = y at *
            go_wp2
            go_roundw
            case rel => exact ⟨c, z, by omega, by go_num, by trivial, Hw.out, by trivial⟩
            case measure => simp [intOf]
        | zero =>
          rcases who_end hwho.out with ⟨hz, hle⟩ | ⟨k, rfl, hkP, hle, hkn⟩
          · have HR := Lib.hid (HN.out hle)
            clear hle
            go_wp2
            go_ret3
            rw [HR.out]
            exact ⟨_, rfl, by dsimp only; rw [Hm.out]; exact Ho3.out, Hbr.out⟩
          · clear HN hwho
            have e0 := unk_set Hl.out hkP hkn (z := 0) (by omega)
            have e1 := unk_set Hl.out hkP hkn (z := 1) (by omega)
            obtain ⟨f', rfl⟩ : ∃ f', f = f' + 1 := ⟨f - 1, by have := Hu.out; omega⟩
            have hpw : 2 ^ unkN P kn = 2 ^ unkN P (kn.set k 0) * 2 := by rw [← e0, Nat.pow_succ]
            have hp1 : 1 ≤ 2 ^ unkN P (kn.set k 0) := Nat.one_le_two_pow
            have hpe : unkN P (kn.set k 1) = unkN P (kn.set k 0) := by omega
            have hs17 := Hs.out
            have hl0 : (kn.set k 0).length = P := by rw [List.length_set]; exact Hl.out
            have hl1 : (kn.set k 1).length = P := by rw [List.length_set]; exact Hl.out
            have hlen' : (sp ++ [((k : Int), (-1 : Int), (-1 : Int))]).length = m + 1 := by rw [List.length_append, Hm.out]; rfl
            obtain ⟨r1, hr1⟩ : ∃ r1, growR P hf cl f' (kn.set k 0) (sp ++ [((k : Int), -1, -1)]) = r1 := ⟨_, rfl⟩
            obtain ⟨r2, hr2⟩ : ∃ r2, growR P hf cl f' (kn.set k 1) r1.1 = r2 := ⟨_, rfl⟩
            have HRn := Lib.hid (HD.out f' k rfl hle r1 r2 hr1 hr2)
            have hn1 := Hlen1.out f' (kn.set k 0) (sp ++ [((k : Int), -1, -1)]) hl0
            have hn2 := Hlen1.out f' (kn.set k 1) r1.1 hl1
            rw [hr1, hlen'] at hn1
            rw [hr2, hpe] at hn2
            have hih1 := Hih.out f' rfl (kn.set k 0) hl0 (by have := Hu.out; omega) (sp ++ [((k : Int), -1, -1)]) (by rw [hlen']; omega)
            have hih2 := Hih.out f' rfl (kn.set k 1) hl1 (by have := Hu.out; omega) r1.1 (by rw [hpe]; omega)
            rw [hr1] at hih1
            rw [hr2] at hih2
            rw [hlen'] at hih1
            obtain ⟨s1, l, o1⟩ := r1
            obtain ⟨s2, r, o2⟩ := r2
            dsimp only at hih1 hih2 hn1 hn2
            have Hih1 := Lib.hid hih1
            have Hih2 := Lib.hid hih2
            have hm20 : m ≤ 15 := by omega
            have hms2 : m < s2.length := by omega
            have hs2l : s2.length ≤ 17 := by omega
            have hspl := split_runs wr base (.slice so m scap) sp k (by rw [Hm.out]; exact Ho3.out) (by rw [Hm.out]; omega)
            rw [Hm.out] at hspl
            obtain ⟨f5, g5, w5, g6, c6, w6, hrun5, hrun6, hown6, hb6⟩ := hspl
            have hs6 := hb6.size
            obtain ⟨h7, c7, w7, hrun7, hown7, hb7⟩ := more_runs P (by omega) (by omega) kn Hl.out B (.slice ko P kcap) w6 (Hk3.out.below (fun q hq => hb6.block q (by omega))) (by omega)
            have hs7 := hb7.size
            have hst7 := (hown7.stored k (.int .i64 0)).1
            rw [← ints_set] at hst7
            have hlt7 := hown7.lt h7 rfl
            have hfz7 := hown7.frozenAt k
            have hcur7 := (hown7.cellAt k (by omega)).trans (ints_get (by rw [Hl.out]; exact hkP))
            have hb8 : Below w6.heap.size w6 (w7.setCell ⟨h7, k, none⟩ (.int .i64 0)) := hb7.setCell (p := ⟨h7, k, none⟩) hlt7.1 _
            have hrd8 := rd_own_ints hl0 hst7
            obtain ⟨w8, hw8⟩ : ∃ w8, w8 = w7.setCell ⟨h7, k, none⟩ (.int .i64 0) := ⟨_, rfl⟩
            rw [← hw8] at hb8 hrd8
            have hs8 := hb8.size
            have hb68 := hb6.trans (hb8.mono hs6)
            obtain ⟨h9, c9, w9, hrun9, hown9, hb9⟩ := more_runs P (by omega) (by omega) kn Hl.out B (.slice ko P kcap) w8 (Hk3.out.below (fun q hq => hb68.block q (by omega))) (by omega)
            have hs9 := hb9.size
            have hst9 := (hown9.stored k (.int .i64 1)).1
            rw [← ints_set] at hst9
            have hlt9 := hown9.lt h9 rfl
            have hfz9 := hown9.frozenAt k
            have hcur9 := (hown9.cellAt k (by omega)).trans (ints_get (by rw [Hl.out]; exact hkP))
            have hb10 : Below w8.heap.size w8 (w9.setCell ⟨h9, k, none⟩ (.int .i64 1)) := hb9.setCell (p := ⟨h9, k, none⟩) hlt9.1 _
            have hrd10 := rd_own_ints hl1 hst9
            obtain ⟨w10, hw10⟩ : ∃ w10, w10 = w9.setCell ⟨h9, k, none⟩ (.int .i64 1) := ⟨_, rfl⟩
            rw [← hw10] at hb10 hrd10
            have hs10 := hb10.size
            have hb610 := hb8.trans (hb10.mono hs8)
            have hbr10 := hb68.trans (hb10.mono (by omega))
            have ho10 := own_mono (base := wo.heap.size) (own_below hown6 hb610) hsr
            have hrd8' := (hrd8.below (w' := w10) hb10.block).mono hs10
            have Hrun5 := Lib.hid hrun5
            have Hrun6 := Lib.hid hrun6
            have Hrun7 := Lib.hid hrun7
            have Hrun9 := Lib.hid hrun9
            have hcall1 := Hih1.out w10.heap.size wo.heap.size (.slice qo j qcap) u (.slice (some ⟨h7, 0, none⟩) P c7) (.slice (some ⟨g6, 0, none⟩) (m + 1) c6) w10 ((Hr3.out.below (fun q hq => hbr10.block q (by omega))).mono (by omega)) ((Hm3.out.below (fun q hq => hbr10.block q (by omega))).mono (by omega)) hrd8' (Nat.le_refl _) ho10 (by omega)
            have Hcall1 := Lib.hid hcall1
            have Hr10 := Lib.hid ((Hr3.out.below (w' := w10) (fun q hq => hbr10.block q (by omega))).mono (show B ≤ w10.heap.size by omega))
            have Hm10 := Lib.hid ((Hm3.out.below (w' := w10) (fun q hq => hbr10.block q (by omega))).mono (show B ≤ w10.heap.size by omega))
            have Hrd10 := Lib.hid hrd10
            have Hbr10 := Lib.hid hbr10
            clear hcall1 hrd10 hrd8' hrd8 hbr10 hb610 hb68 hb6 hb8 hb10 hb7 hb9 hst7 hst9 hlt7 hlt9 hown6 hown7 hown9 ho10 hrun5 hrun6 hrun7 hrun9 hih1 hih2 hr1 hr2 e0 e1 hpw hp1 hpe hs17 hl0 hl1 hle hkn HD Hlen1 Hih
            go_upto_region 18 with (first
              | (at_builtin; refine Lib.wpList_append_run _ rfl (.tmp 62) (.tmp 63) _ _ rfl _ _ rfl rfl _ _ Hrun5.out ?_)
              | (at_builtin; refine Lib.wpList_append_run _ rfl (.tmp 64) (.tmp 67) _ _ rfl _ _ rfl rfl _ _ Hrun6.out ?_)
              | fail)
            go_upto_region 20 with (first
              | (at_builtin; refine Lib.wpList_append_run _ rfl (.tmp 69) (.tmp 70) _ _ rfl _ _ rfl rfl _ _ Hrun7.out ?_)
              | fail)
            rw [← hw8]
            clear hw8 hfz7 hcur7 Hrun5 Hrun6 Hrun7
            go_upto_region 22 with (first
              | (at_builtin; refine Lib.wpList_append_run _ rfl (.tmp 75) (.tmp 76) _ _ rfl _ _ rfl rfl _ _ Hrun9.out ?_)
              | fail)
            rw [← hw10]
            clear hw10 hfz9 hcur9 Hrun9
            go_wp2_with fail
            refine Hcall1.out.mono ?_
            rintro e w11 ⟨v1, rfl, ho11, hb11⟩
            dsimp only at ho11 ⊢
            obtain ⟨v1o, v1c, rfl⟩ := own_len ho11
            have hs11 := hb11.size
            have hcall2 := Hih2.out w11.heap.size wo.heap.size (.slice qo j qcap) u (.slice (some ⟨h9, 0, none⟩) P c9) (.slice v1o s1.length v1c) w11 ((Hr10.out.below hb11.block).mono hs11) ((Hm10.out.below hb11.block).mono hs11) ((Hrd10.out.below hb11.block).mono hs11) (Nat.le_refl _) ho11 (by omega)
            have Hcall2 := Lib.hid hcall2
            have Hb11 := Lib.hid (Hbr10.out.trans (hb11.mono (by omega)))
            clear hb11 ho11 hcall2 Hcall1 Hih2 Hih1
            go_wp2_with fail
            refine Hcall2.out.mono ?_
            rintro e w12 ⟨v2, rfl, ho12, hb12⟩
            dsimp only at ho12 ⊢
            have hs12 := hb12.size
            have hb012 := Hbr.out.trans ((Hb11.out.trans (hb12.mono (by omega))).mono hsr)
            obtain ⟨g12, c12, rfl⟩ : ∃ g12 c12, v2 = .slice (some ⟨g12, 0, none⟩) s2.length c12 := by
              rcases ho12.2 with ⟨_, h0⟩ | ⟨g12, c12, cur, h, _⟩
              · omega
              · exact ⟨g12, c12, h⟩
            have hsc12 : s2.length ≤ c12 := by
              rcases ho12.2 with ⟨h, _⟩ | ⟨_, _, cur, h, _, _, h2, _⟩
              · cases h
              · cases h; exact h2
            obtain ⟨ho13, hb13, ⟨ca, cb, cc, q1, q2, q3⟩, z1, z2, z3⟩ := split_stored ho12 rfl m hms2 ((k : Int), l, r)
            dsimp only at ho13 hb13
            have Ho13 := Lib.hid ho13
            have Hb13 := Lib.hid (hb012.trans hb13)
            clear ho12 hb12 hb012 ho13 hb13 Hcall2
            generalize hL : s2.length = L at *
            have HL := Lib.hid hL; clear hL
            have hmL : (m : Int) < (L : Int) := by omega
            go_upto_region 25 with fail
            generalize ((w12.setCell ⟨g12, m * 3, none⟩ (.int .i64 k)).setCell ⟨g12, m * 3 + 1, none⟩ (.int .i64 l)).setCell ⟨g12, m * 3 + 2, none⟩ (.int .i64 r) = w13 at *
            clear q1 q2 q3 z1 z2 z3
            cases o1
            all_goals
              go_wp2
              go_ret3
              rw [HRn.out]
              exact ⟨_, rfl, by dsimp only; rw [List.length_set, HL.out]; exact own_mono Ho13.out hbase, Hb13.out⟩
theorem specGrow (P : Nat) (qs : List QC) (ms : List (Int × Int)) (hok : storyOk (P : Int) (qs.map (·.2)) = true) (ht : termOk (P : Int) ms = true) : ∀ f, GrowC 54 P qs ms f := by
  intro f
  induction f with
  | zero => exact specGrow_step P qs ms hok ht 0 (fun f' h => by omega)
  | succ f ih => exact specGrow_step P qs ms hok ht (f + 1) (fun f' h => by obtain rfl : f = f' := by omega
                                                                            exact ih)
end Go.Proofs.YtilgkheefhobgaaDoor
/- Contract of the reference's FindProof. -/
namespace Go.Proofs.YtilgkheefhobgaaDoor
open Go.RowKit Go.Joins
theorem isSome_noneT : (none : Option PT).isSome = false := rfl
/-- what a call hands back that finds a proof, in memory of its own -/
def FindOut (sp : List Sp3) (fi : Int) (ok : Bool) (w : World) (e : Ending) (w' : World) : Prop := ∃ v, e = .returned (.tuple #[.agg #[.int .i64 fi, v], .bool ok]) ∧ w'.ownsRow w.heap.size TSp 3 v sp.length (scells sp) ∧ Below w.heap.size w w'
/-- what is found, as splits and a first target -/
def foundS (o : Option PT) : List Sp3 := match o with | some t => t.flat 0 | none => []
def foundG (o : Option PT) : Int := match o with | some t => t.tgt 0 | none => 0
theorem below_own_set {w w' w'' : World} (hb : Below w.heap.size w w') (hg : w'.grownBy w'' (some w.heap.size)) : Below w.heap.size w w'' := hb.trans ⟨hg.os, hg.tape, hg.output, hg.size, fun k hk => hg.block k (by have := hb.size; omega) (fun e => by cases e; omega)⟩
theorem proof_fin {w wB : World} {a b v : Value} {sp : List Sp3} (hx : Box wB w.heap.size a b) (hb : Below w.heap.size w wB) (ho : wB.ownsRow (w.heap.size + 1) TSp 3 v sp.length (scells sp)) (fi : Int) (ok : Bool) :
    ∃ w6, w6 = (wB.setCell ⟨w.heap.size, 0, none⟩ (.int .i64 fi)).setCell ⟨w.heap.size, 1, none⟩ v ∧ Box w6 w.heap.size (.int .i64 fi) v ∧ FindOut sp fi ok w (.returned (.tuple #[.agg #[.int .i64 fi, v], .bool ok])) w6 := by
  obtain ⟨w6, e6, h6, g6⟩ := hx.set (.int .i64 fi) v
  exact ⟨w6, e6, h6, v, rfl, own_mono (own_row ho g6 (by omega)) (by omega), below_own_set hb g6⟩
theorem findF_no1 {p : Int} {s : List Cl} {ms : List (Int × Int)} (h : storyOk p s = false) : findF p s ms = none := by unfold findF; rw [h]; rfl
theorem findF_no2 {p : Int} {s : List Cl} {ms : List (Int × Int)} (h : termOk p ms = false) : findF p s ms = none := by unfold findF; rw [h]; simp
theorem findF_yes {p : Int} {s : List Cl} {ms : List (Int × Int)} (hs : storyOk p s = true) (ht : termOk p ms = true) : findF p s ms = growT p.toNat (hfV p ms) (clL p s) p.toNat (noneK p.toNat) := by unfold findF; rw [hs, ht]; rfl
/-- what is grown from nothing, as what is found -/
theorem grown_found {P : Nat} {hf : Nat → Bool} {cl : List (Nat → Bool)} : (growR P hf cl P (noneK P) []).2.2 = (growT P hf cl P (noneK P)).isSome ∧ ((growT P hf cl P (noneK P)).isSome = true → (growR P hf cl P (noneK P) []).1 = foundS (growT P hf cl P (noneK P)) ∧ (growR P hf cl P (noneK P) []).2.1 = foundG (growT P hf cl P (noneK P))) := by
  cases h : growT P hf cl P (noneK P) with
  | none => exact ⟨grow_none h [], fun h => by cases h⟩
  | some t =>
    have := grow_found h []
    rw [this]
    exact ⟨rfl, fun _ => ⟨rfl, rfl⟩⟩
theorem noneK_17 {P : Nat} (h : P ≤ 4) : ([] : List Sp3).length + 2 ^ unkN P (noneK P) ≤ 17 := by
  rw [noneK_unk]
  have : 2 ^ P ≤ 2 ^ 4 := Nat.pow_le_pow_right (by decide) h
  simp; omega
theorem own_made11 (w : World) : (w.alloc (.cells #[] TSp)).ownsRow w.heap.size TSp 3 (.slice (some ⟨w.heap.size, 0, none⟩) 0 0) ([] : List Sp3).length (scells []) := World.ownsRow_made _ _ 0 (Nat.le_refl _) (by unfold maxLen; omega) rfl
theorem own_nil11 (w : World) (base : Nat) : w.ownsRow base TSp 3 (.slice none 0 0) ([] : List Sp3).length (scells []) := World.ownsRow_nil _ _ _ _
attribute [local irreducible] holds tabN tabV holdsV sameV followsV alwaysV matterV claimOk mayT mayV ctabV ctabN storyV storyOk storyN storyT ctermV ctermL followsF agreeN agreeB closeB chkN checks nextOk ints hfV clL provesF onceB proofV noneK growR clashF leastU unkN scells findF growT foundS foundG
set_option maxRecDepth 100000 in
set_option maxHeartbeats 8000000 in
theorem specFindProof (p : Int) (qs : List QC) (ms : List (Int × Int)) (B : Nat) (v u : Value) (w : World) (hr : RdStory w B v qs) (hr' : RdMarks w B u ms) (hB : B ≤ w.heap.size) :
    Calls Tryd.prog 29 #[.int .i64 p, v, u] w (FindOut (foundS (findF p (qs.map (·.2)) ms)) (foundG (findF p (qs.map (·.2)) ms)) (findF p (qs.map (·.2)) ms).isSome w) := by
  have hsc := fun w h hB => specStoryOk p qs B v w h hB
  have htc := fun w h => specTermOk p ms B u w h
  have Hr := Lib.hid hr
  have Hm := Lib.hid hr'
  clear hr hr'
  obtain ⟨w1, hw1, hx1, hb1, hs1⟩ := Box.new w (.int .i64 0) (.slice none 0 0) 27
  have Hr1 := Lib.hid (Hr.out.below (w' := w1) (fun q hq => hb1.block q (by omega)))
  have Hm1 := Lib.hid (Hm.out.below (w' := w1) (fun q hq => hb1.block q (by omega)))
  have hB1 : B ≤ w1.heap.size := by omega
  have Hb1 := Lib.hid hb1
  have hfs : foundS none = [] := by unfold foundS; rfl
  have hfg : foundG none = 0 := by unfold foundG; rfl
  have hno : ∀ wB, Box wB w.heap.size (.int .i64 0) (.slice none 0 0) → Below w.heap.size w wB → ∃ w6, w6 = (wB.setCell ⟨w.heap.size, 0, none⟩ (.int .i64 0)).setCell ⟨w.heap.size, 1, none⟩ (.slice none 0 0) ∧ Box w6 w.heap.size (.int .i64 0) (.slice none 0 0) ∧ FindOut [] 0 false w (.returned (.tuple #[.agg #[.int .i64 0, .slice none 0 0], .bool false])) w6 :=
    fun wB hx hb => proof_fin hx hb (own_nil11 _ _) 0 false
  have Hno := Lib.hid hno
  clear hb1 hno Hr Hm
  have HX1 := Lib.hid hx1
  cases hok : storyOk p (qs.map (·.2)) with
  | false =>
    rw [findF_no1 hok, hfs, hfg, isSome_noneT]
    rw [hok] at hsc
    have Hsc := Lib.hid hsc
    clear hok hsc htc hfs hfg
    obtain ⟨x1, x2, x3, x4, x5⟩ := hx1
    go_enter Tryd.func29, Tryd.ntmps29
    go_upto_region 1 with fail
    rw [← hw1]
    clear hw1
    go_wp2_with fail
    refine (Hsc.out _ Hr1.out hB1).mono ?_
    rintro e w2 ⟨rfl, hb2⟩
    have hx2 := HX1.out.below hb2
    obtain ⟨w6, e6, hx6, hout⟩ := Hno.out w2 hx2 (Hb1.out.trans (hb2.mono (by omega)))
    have E6 := Lib.hid e6
    have Hout := Lib.hid hout
    obtain ⟨y1, y2, y3, y4, y5⟩ := hx2
    clear e6 hout hb2 x1 x2 x3 x4
    go_wp2
    rw [← E6.out]
    obtain ⟨z1, z2, _⟩ := hx6
    exact bodyPost_ret (by simp [results, Tryd.results29, go_sem, z1, z2]) rfl Hout.out
  | true =>
  cases ht : termOk p ms with
  | false =>
    rw [findF_no2 ht, hfs, hfg, isSome_noneT]
    rw [hok] at hsc
    rw [ht] at htc
    have Hsc := Lib.hid hsc
    have Htc := Lib.hid htc
    clear hok hsc htc ht hfs hfg
    obtain ⟨x1, x2, x3, x4, x5⟩ := hx1
    go_enter Tryd.func29, Tryd.ntmps29
    go_upto_region 1 with fail
    rw [← hw1]
    clear hw1
    go_wp2_with fail
    refine (Hsc.out _ Hr1.out hB1).mono ?_
    rintro e w2 ⟨rfl, hb2⟩
    have hx2 := HX1.out.below hb2
    have Hm2 := Lib.hid (Hm1.out.below (w' := w2) (fun q hq => hb2.block q (by omega)))
    obtain ⟨w6, e6, hx6, hout⟩ := Hno.out w2 hx2 (Hb1.out.trans (hb2.mono (by omega)))
    have E6 := Lib.hid e6
    have Hout := Lib.hid hout
    obtain ⟨y1, y2, y3, y4, y5⟩ := hx2
    clear e6 hout hb2 x1 x2 x3 x4
    go_wp2_with fail
    refine (Htc.out _ Hm2.out).mono ?_
    rintro e w' ⟨rfl, rfl⟩
    go_wp2
    rw [← E6.out]
    obtain ⟨z1, z2, _⟩ := hx6
    exact bodyPost_ret (by simp [results, Tryd.results29, go_sem, z1, z2]) rfl Hout.out
  | true =>
    obtain ⟨h1, h4⟩ := p_of ht
    obtain ⟨P, rfl⟩ := Int.eq_ofNat_of_zero_le (show 0 ≤ p by omega)
    rw [findF_yes hok ht, Int.toNat_natCast]
    obtain ⟨g1, g2⟩ := grown_found (P := P) (hf := hfV P ms) (cl := clL P (qs.map (·.2)))
    have hgr := specGrow P qs ms hok ht P
    unfold GrowC at hgr
    have hgr' := hgr (noneK P) (noneK_len P) (by rw [noneK_unk]; exact Nat.le_refl _) [] (noneK_17 (by omega))
    have Hnl : Hid ((noneK P).length = P) := noneK_len P
    have Hnt := Lib.hid (fun w => specNothing P (by omega) w)
    rw [hok] at hsc
    rw [ht] at htc
    have Hsc := Lib.hid hsc
    have Htc := Lib.hid htc
    clear hok hsc htc ht hgr
    generalize growT P (hfV P ms) (clL P (qs.map (·.2))) P (noneK P) = o at *
    generalize growR P (hfV P ms) (clL P (qs.map (·.2))) P (noneK P) [] = R at *
    generalize noneK P = kn at *
    have Hgr := Lib.hid hgr'; clear hgr'
    obtain ⟨s1, fi, ok⟩ := R
    dsimp only at g1 g2
    subst g1
    obtain ⟨x1, x2, x3, x4, x5⟩ := hx1
    go_enter Tryd.func29, Tryd.ntmps29
    go_upto_region 1 with fail
    rw [← hw1]
    clear hw1
    go_wp2_with fail
    refine (Hsc.out _ Hr1.out hB1).mono ?_
    rintro e w2 ⟨rfl, hb2⟩
    have hx2 := HX1.out.below hb2
    have hs2 := hb2.size
    have Hr2 := Lib.hid (Hr1.out.below (w' := w2) (fun q hq => hb2.block q (by omega)))
    have Hm2 := Lib.hid (Hm1.out.below (w' := w2) (fun q hq => hb2.block q (by omega)))
    have HX2 := Lib.hid hx2
    have Hb2 := Lib.hid (Hb1.out.trans (hb2.mono (by omega)))
    clear hb2 x1 x2 x3 x4 hx2
    go_wp2_with fail
    refine (Htc.out _ Hm2.out).mono ?_
    rintro e w' ⟨rfl, rfl⟩
    go_wp2_with fail
    refine (Hnt.out _).mono ?_
    rintro e w3 ⟨kv, rfl, hown3, hb3⟩
    have hs3 := hb3.size
    have hk3 := rd_own_ints Hnl.out hown3
    obtain ⟨ko, kcap, rfl⟩ := own_len hown3
    obtain ⟨w4, hw4⟩ : ∃ w4, w4 = w3.alloc (.cells #[] TSp) := ⟨_, rfl⟩
    have hb4 : Below w3.heap.size w3 w4 := by rw [hw4]; exact (Below.refl _ _).alloc (Nat.le_refl _) _
    have ho4 : w4.ownsRow w3.heap.size TSp 3 (.slice (some ⟨w3.heap.size, 0, none⟩) 0 0) ([] : List Sp3).length (scells []) := by rw [hw4]; exact own_made11 w3
    have hs4 := hb4.size
    have hb24 := hb3.trans (hb4.mono hs3)
    have hx4 := HX2.out.below hb24
    have HX4 := Lib.hid hx4
    have hcall := Hgr.out w4.heap.size (w.heap.size + 1) v u (.slice ko P kcap) (.slice (some ⟨w3.heap.size, 0, none⟩) 0 0) w4 ((Hr2.out.below (fun q hq => hb24.block q (by omega))).mono (by omega)) ((Hm2.out.below (fun q hq => hb24.block q (by omega))).mono (by omega)) ((hk3.below hb4.block).mono hs4) (Nat.le_refl _) (own_mono ho4 (by omega)) (by omega)
    have Hcall := Lib.hid hcall
    have Hb4 := Lib.hid (Hb2.out.trans (hb24.mono (by omega)))
    clear hb3 hown3 hk3 hb24 ho4 hb4 hcall hx4
    go_wp2_with fail
    rw [← hw4]
    refine Hcall.out.mono ?_
    rintro e w5 ⟨sv, rfl, ho5, hb5⟩
    dsimp only at ho5 ⊢
    have hx5 := HX4.out.below hb5
    have hb05 := Hb4.out.trans (hb5.mono (by omega))
    obtain ⟨so, scap, rfl⟩ := own_len ho5
    clear hb5 Hcall hw4
    cases hos : o.isSome with
    | false =>
      have hn : o = none := by cases o with | none => rfl | some t => cases hos
      obtain ⟨w6, e6, hx6, hout⟩ := Hno.out w5 hx5 hb05
      have E6 := Lib.hid e6
      have Hout : Hid (FindOut (foundS o) (foundG o) o.isSome w (.returned (.tuple #[.agg #[.int .i64 0, .slice none 0 0], .bool false])) w6) := by unfold Hid; rw [hos, hn, hfs, hfg]; exact hout
      obtain ⟨y1, y2, y3, y4, y5⟩ := hx5
      clear e6 hout hb05 ho5 g2 hn hos
      go_wp2
      rw [← E6.out]
      obtain ⟨z1, z2, _⟩ := hx6
      exact bodyPost_ret (by simp [results, Tryd.results29, go_sem, z1, z2]) rfl Hout.out
    | true =>
      obtain ⟨e1, e2⟩ := g2 hos
      obtain ⟨w6, e6, hx6, hout⟩ := proof_fin hx5 hb05 ho5 fi true
      have E6 := Lib.hid e6
      have Hout : Hid (FindOut (foundS o) (foundG o) o.isSome w (.returned (.tuple #[.agg #[.int .i64 fi, .slice so s1.length scap], .bool true])) w6) := by unfold Hid; rw [hos, ← e1, ← e2]; exact hout
      obtain ⟨y1, y2, y3, y4, y5⟩ := hx5
      clear e6 hout hb05 ho5 g2 e1 e2 hos
      generalize s1.length = L at *
      go_wp2
      rw [← E6.out]
      obtain ⟨z1, z2, _⟩ := hx6
      exact bodyPost_ret (by simp [results, Tryd.results29, go_sem, z1, z2]) rfl Hout.out
end Go.Proofs.YtilgkheefhobgaaDoor
/- Texts of terms: what the trees read as, and contracts of the program's small functions over texts. -/
namespace Go.Proofs.YtilgkheefhobgaaDoor
open Go.RowKit

/-- the kind of the last mark -/
def Tm.last : Tm → Int
  | .leaf k _ => k
  | .un _ => 2
  | .bin k _ _ => k
def sign (k : Int) : UInt8 := if k = 3 then 38 else if k = 4 then 124 else 61
def within (l : List UInt8) (last k : Int) : List UInt8 := if k < last then 40 :: (l ++ [41]) else l
/-- the text of a term -/
def txt : Tm → List UInt8
  | .leaf k x => if k = 0 then [UInt8.ofNat (97 + x.toNat)] else [UInt8.ofNat (48 + x.toNat)]
  | .un t => 33 :: within (txt t) t.last 2
  | .bin k a b => within (txt a) a.last k ++ sign k :: within (txt b) b.last (k - 1)
theorem within_len (l : List UInt8) (a k : Int) : (within l a k).length ≤ l.length + 2 := by
  unfold within; split <;> simp
/-- a text has at most five signs a mark -/
theorem txt_len : ∀ t : Tm, (txt t).length ≤ 5 * t.post.length
  | .leaf k x => by unfold txt; split <;> simp [Tm.post]
  | .un t => by
    have := txt_len t
    have h := within_len (txt t) t.last 2
    simp [txt, Tm.post]; omega
  | .bin k a b => by
    have h1 := txt_len a
    have h2 := txt_len b
    have h3 := within_len (txt a) a.last k
    have h4 := within_len (txt b) b.last (k - 1)
    simp [txt, Tm.post]; omega
abbrev sv (l : List UInt8) : Value := .string ⟨l.toArray⟩

set_option maxHeartbeats 1000000 in
theorem itoa (x : Int) (hx : 0 ≤ x ∧ x ≤ 5) (w : World) :
    Calls Tryd.prog 31 #[.int .i64 x] w fun e w' => e = .returned (sv [UInt8.ofNat (48 + x.toNat)]) ∧ w = w' := by
  have h : x = 0 ∨ x = 1 ∨ x = 2 ∨ x = 3 ∨ x = 4 ∨ x = 5 := by omega
  clear hx
  rcases h with rfl | rfl | rfl | rfl | rfl | rfl
  all_goals
    go_enter Tryd.func31, Tryd.ntmps31
    go_wp2
    go_ret
    exact ⟨rfl, rfl⟩
end Go.Proofs.YtilgkheefhobgaaDoor
/- Contract of the program's text of one mark. -/
namespace Go.Proofs.YtilgkheefhobgaaDoor
open Go.RowKit

theorem below_undrewY {B : Nat} {w w' : World} (h : Below B w.drew w') : Below B w w' := ⟨h.os, h.tape, h.output, h.size, h.block⟩
/-- the slice v has a part's text and last kind at place j -/
def PartAtX (w : World) (B : Nat) (ao : Option Addr) (j : Nat) (l : List UInt8) (k : Int) : Prop :=
  ∃ b off, ao = some ⟨b, off, none⟩ ∧ b < B ∧ w.cell? ⟨b, off + j * 2, none⟩ = some (sv l) ∧ w.cell? ⟨b, off + j * 2 + 1, none⟩ = some (.int .i64 k)
theorem below_undrewX {w w' : World} {n : Nat} (h : Below (w.drewN n).heap.size (w.drewN n) w') : Below w.heap.size w w' := ⟨h.os, h.tape, h.output, h.size, h.block⟩
theorem bs_append (a b : List UInt8) : (⟨a.toArray⟩ : ByteArray) ++ ⟨b.toArray⟩ = ⟨(a ++ b).toArray⟩ := by
  apply ByteArray.ext
  simp

end Go.Proofs.YtilgkheefhobgaaDoor

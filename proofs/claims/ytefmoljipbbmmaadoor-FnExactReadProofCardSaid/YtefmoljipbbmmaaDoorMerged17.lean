/- Texts of a proof, merged: ProveV, ProveW, ProveX, Text, TextM. -/
import Derived.Test.YtefmoljipbbmmaaDoorProveU
import Derived.Test.YtefmoljipbbmmaaDoorMarks
import Derived.Deep.RegionHeld3
import Derived.IntWalk
/- Contracts of the reference's proofs by cases: what is grown. -/
namespace Go.Proofs.YtefmoljipbbmmaaDoor
open Go.RowKit Go.Joins
abbrev TSp : TypeId := 85
abbrev TSl : TypeId := 35
theorem Tryd.infoSp : (Tryd.prog.info? TSp).map (fun i => (i.zero, i.size, i.bytes)) = some (some (.agg #[.int .i64 0, .int .i64 0, .int .i64 0]), 3, 24) := by kernel_rfl
theorem clash_first {P : Nat} {hf : Nat → Bool} {cl : List (Nat → Bool)} {kn : List Int} {k : Nat} (hk : k < cl.length) (h : ∀ i, i < k → closeB P hf cl (-2 - (i : Int)) kn = false) (hc : closeB P hf cl (-2 - (k : Int)) kn = true) : clashF P hf cl kn = some k := by
  unfold clashF
  rw [List.find?_range_eq_some]
  exact ⟨hc, List.mem_range.2 hk, fun j hj => by rw [h j hj]; rfl⟩
theorem clash_all {P : Nat} {hf : Nat → Bool} {cl : List (Nat → Bool)} {kn : List Int} (h : ∀ i, i < cl.length → closeB P hf cl (-2 - (i : Int)) kn = false) : clashF P hf cl kn = none := by
  unfold clashF
  rw [List.find?_eq_none]
  intro k hk
  rw [h k (List.mem_range.1 hk)]; decide
theorem least_first {P : Nat} {kn : List Int} {k : Nat} (hk : k < P) (h : ∀ i, i < k → ¬ kn.getD i 0 < 0) (hn : kn.getD k 0 < 0) : leastU P kn = some k := by
  unfold leastU
  rw [List.find?_range_eq_some]
  exact ⟨decide_eq_true hn, List.mem_range.2 hk, fun j hj => by rw [decide_eq_false (h j hj)]; rfl⟩
theorem least_all11 {P : Nat} {kn : List Int} (h : ∀ i, i < P → ¬ kn.getD i 0 < 0) : leastU P kn = none := by
  unfold leastU
  rw [List.find?_eq_none]
  intro k hk
  rw [decide_eq_false (h k (List.mem_range.1 hk))]; decide
/-- the least who is not known, of those from a place on -/
def WhoP (P : Nat) (kn : List Int) (i : Nat) (z : Int) : Prop := (z = -1 ∧ ∀ j, i ≤ j → j < P → ¬ kn.getD j 0 < 0) ∨ ∃ j : Nat, z = j ∧ i ≤ j ∧ j < P ∧ kn.getD j 0 < 0 ∧ ∀ l, i ≤ l → l < j → ¬ kn.getD l 0 < 0
theorem who_start (P : Nat) (kn : List Int) : WhoP P kn P (-1) := .inl ⟨rfl, fun j h1 h2 => by omega⟩
theorem who_yes {P : Nat} {kn : List Int} {i : Nat} (hi : i < P) (h : kn.getD i 0 < 0) : WhoP P kn i i := .inr ⟨i, rfl, Nat.le_refl _, hi, h, fun l h1 h2 => by omega⟩
theorem who_no {P : Nat} {kn : List Int} {i : Nat} {z : Int} (h : WhoP P kn (i + 1) z) (hn : ¬ kn.getD i 0 < 0) : WhoP P kn i z := by
  rcases h with ⟨h1, h2⟩ | ⟨j, h1, h2, h3, h4, h5⟩
  · refine .inl ⟨h1, fun j h3 h4 => ?_⟩
    by_cases hj : j = i
    · subst hj; exact hn
    · exact h2 j (by omega) h4
  · refine .inr ⟨j, h1, by omega, h3, h4, fun l h6 h7 => ?_⟩
    by_cases hl : l = i
    · subst hl; exact hn
    · exact h5 l (by omega) h7
theorem who_end {P : Nat} {kn : List Int} {z : Int} (h : WhoP P kn 0 z) : (z < 0 ∧ leastU P kn = none) ∨ ∃ k : Nat, z = k ∧ k < P ∧ leastU P kn = some k ∧ kn.getD k 0 < 0 := by
  rcases h with ⟨h1, h2⟩ | ⟨j, h1, _, h3, h4, h5⟩
  · exact .inl ⟨by omega, least_all11 fun i hi => h2 i (by omega) hi⟩
  · exact .inr ⟨j, h1, h3, least_first h3 (fun i hi => h5 i (by omega) hi) h4, h4⟩
theorem add_zero11 (g j : Nat) : (⟨g, 0, none⟩ : Addr).add j = ⟨g, j, none⟩ := by simp [Addr.add]; omega
/-- splits behind an empty row, and one more: a copy with one more -/
theorem split_runs (w : World) (base : Nat) (v : Value) (sp : List Sp3) (k : Int) (ho : w.ownsRow base TSp 3 v sp.length (scells sp)) (hl : sp.length ≤ 20) :
    ∃ (f2 : Option Addr) (g2 : Nat) (w2 : World) (g cp : Nat) (w4 : World),
      (Builtin.append_ #[TSl, TSl] TSl #[.slice (some ⟨w.heap.size, 0, none⟩) 0 0, v]).run Tryd.prog (w.alloc (.cells #[] TSp)) = .ok (.slice f2 sp.length g2) w2 ∧
      (Builtin.append_ #[TSl, TSl] TSl #[.slice f2 sp.length g2, .slice (some ⟨w2.heap.size, 0, none⟩) 1 1]).run Tryd.prog (w2.alloc (.cells #[.int .i64 k, .int .i64 (-1), .int .i64 (-1)] TSp)) = .ok (.slice (some ⟨g, 0, none⟩) (sp.length + 1) cp) w4 ∧
      w4.ownsRow w.heap.size TSp 3 (.slice (some ⟨g, 0, none⟩) (sp.length + 1) cp) (sp.length + 1) (scells (sp ++ [(k, -1, -1)])) ∧ Below w.heap.size w w4 := by
  obtain ⟨ii, hii, hz0, hz1, hz2⟩ := info_parts Tryd.infoSp
  have hb1 : Below w.heap.size w (w.alloc (.cells #[] TSp)) := (Below.refl _ _).alloc (Nat.le_refl _) _
  have hmade : (w.alloc (.cells #[] TSp)).ownsRow w.heap.size TSp 3 (.slice (some ⟨w.heap.size, 0, none⟩) 0 0) 0 [] := World.ownsRow_made _ _ 0 (Nat.le_refl _) (by unfold maxLen; omega) rfl
  have first : ∃ v2 w2, (Builtin.append_ #[TSl, TSl] TSl #[.slice (some ⟨w.heap.size, 0, none⟩) 0 0, v]).run Tryd.prog (w.alloc (.cells #[] TSp)) = .ok v2 w2 ∧ w2.ownsRow w.heap.size TSp 3 v2 sp.length (scells sp) ∧ Below w.heap.size w w2 := by
    have hlen := ho.1
    rcases ho.2 with ⟨rfl, h0⟩ | ⟨g, cap, cur, rfl, hbg, hg, _⟩
    · have : sp = [] := List.eq_nil_of_length_eq_zero h0
      subst this
      exact ⟨_, _, run_append_owned_none (P := Tryd.prog) (w := w.alloc (.cells #[] TSp)) w.heap.size TSl TSl TSp ii 3 Tryd.underlying35 hii _ _ _ hmade, hmade, hb1⟩
    · have hgl : g < w.heap.size := (Array.getElem?_eq_some_iff.1 hg).1
      have hnews : ∀ (j : Nat) (x : Value), (scells sp)[j]? = some x → (w.alloc (.cells #[] TSp)).cell? ((⟨g, 0, none⟩ : Addr).add j) = some x := by
        intro j x hj
        have hjl := (List.getElem?_eq_some_iff.1 hj).1
        rw [hlen] at hjl
        rw [add_zero11, hb1.cell (p := ⟨g, j, none⟩) hgl, ho.cellAt j hjl, hj]
      obtain ⟨v', w', hrun, hown, hgr, _, _⟩ := run_append_own_at (P := Tryd.prog) (w.alloc (.cells #[] TSp)) w.heap.size TSl TSl TSp ii _ 3 24 Tryd.underlying35 hii hz0 hz1 hz2 rfl (by decide) _ _ _ hmade ⟨g, 0, none⟩ sp.length cap (scells sp) (scells_length sp) hnews (scells_one sp) (by unfold maxLen; omega) (by omega) hb1.size
      have hb2 := hb1.grown hgr hb1.size (fun q hq => (hmade.lt q hq).1)
      rw [Nat.zero_add, List.nil_append] at hown
      exact ⟨v', w', hrun, hown, hb2⟩
  obtain ⟨v2, w2, hrun2, hown2, hb2⟩ := first
  obtain ⟨f2, g2, rfl⟩ := own_len hown2
  have hb3 : Below w.heap.size w (w2.alloc (.cells #[.int .i64 k, .int .i64 (-1), .int .i64 (-1)] TSp)) := hb2.alloc hb2.size _
  have hown3 := hown2.alloc (.cells #[.int .i64 k, .int .i64 (-1), .int .i64 (-1)] TSp)
  have hnews : ∀ (j : Nat) (x : Value), (scells [(k, -1, -1)])[j]? = some x → (w2.alloc (.cells #[.int .i64 k, .int .i64 (-1), .int .i64 (-1)] TSp)).cell? ((⟨w2.heap.size, 0, none⟩ : Addr).add j) = some x := by
    intro j x hj
    rw [add_zero11, cell_of_row _ w2.heap.size j _ TSp (0, 0) (heap_alloc_new w2 _), ← hj]
    simp [scells]
  obtain ⟨v4, w4, hrun4, hown4, hgr4, _, _⟩ := run_append_own_at (P := Tryd.prog) (w2.alloc (.cells #[.int .i64 k, .int .i64 (-1), .int .i64 (-1)] TSp)) w.heap.size TSl TSl TSp ii _ 3 24 Tryd.underlying35 hii hz0 hz1 hz2 rfl (by decide) _ _ _ hown3 ⟨w2.heap.size, 0, none⟩ 1 1 (scells [(k, -1, -1)]) (by rw [scells_length]; rfl) hnews (scells_one _) (by unfold maxLen; omega) (by omega) hb3.size
  have hb4 := hb3.grown hgr4 hb3.size (fun q hq => (hown3.lt q hq).1)
  rw [← scells_append] at hown4
  rcases hown4.2 with ⟨_, h0⟩ | ⟨g, cp, cur, rfl, _⟩
  · omega
  · exact ⟨f2, g2, w2, g, cp, w4, hrun2, hrun4, hown4, hb4⟩
theorem scells_set_at (s : List Sp3) (m : Nat) (hm : m < s.length) (z : Sp3) : (((scells s).set (m * 3) (.int .i64 z.1)).set (m * 3 + 1) (.int .i64 z.2.1)).set (m * 3 + 2) (.int .i64 z.2.2) = scells (s.set m z) := by
  have h := scells_set (s.take m) (s.drop (m + 1)) s[m] z m (by rw [List.length_take]; omega)
  rw [← List.drop_eq_getElem_cons hm, List.take_append_drop] at h
  rw [h, List.set_eq_take_append_cons_drop, if_pos hm]
/-- a split stored into a row of the call's own -/
theorem split_stored {w : World} {base g cp n : Nat} {s : List Sp3} (h : w.ownsRow base TSp 3 (.slice (some ⟨g, 0, none⟩) n cp) n (scells s)) (hn : s.length = n) (m : Nat) (hm : m < n) (z : Sp3) :
    (((w.setCell ⟨g, m * 3, none⟩ (.int .i64 z.1)).setCell ⟨g, m * 3 + 1, none⟩ (.int .i64 z.2.1)).setCell ⟨g, m * 3 + 2, none⟩ (.int .i64 z.2.2)).ownsRow base TSp 3 (.slice (some ⟨g, 0, none⟩) n cp) n (scells (s.set m z)) ∧
      Below base w (((w.setCell ⟨g, m * 3, none⟩ (.int .i64 z.1)).setCell ⟨g, m * 3 + 1, none⟩ (.int .i64 z.2.1)).setCell ⟨g, m * 3 + 2, none⟩ (.int .i64 z.2.2)) ∧
      (∃ a b c, w.cell? ⟨g, m * 3, none⟩ = some a ∧ w.cell? ⟨g, m * 3 + 1, none⟩ = some b ∧ w.cell? ⟨g, m * 3 + 2, none⟩ = some c) ∧
      w.frozen? ⟨g, m * 3, none⟩ = false ∧ w.frozen? ⟨g, m * 3 + 1, none⟩ = false ∧ w.frozen? ⟨g, m * 3 + 2, none⟩ = false := by
  have h1 := (h.stored (m * 3) (.int .i64 z.1)).1
  have h2 := (h1.stored (m * 3 + 1) (.int .i64 z.2.1)).1
  have h3 := (h2.stored (m * 3 + 2) (.int .i64 z.2.2)).1
  rw [scells_set_at s m (by omega) z] at h3
  have hg := (h.lt g rfl).1
  obtain ⟨c1, c2, c3⟩ := scells_get s m (by omega)
  refine ⟨h3, (((Below.refl base w).setCell (p := ⟨g, m * 3, none⟩) hg _).setCell (p := ⟨g, m * 3 + 1, none⟩) hg _).setCell (p := ⟨g, m * 3 + 2, none⟩) hg _, ⟨_, _, _, (h.cellAt (m * 3) (by omega)).trans c1, (h.cellAt (m * 3 + 1) (by omega)).trans c2, (h.cellAt (m * 3 + 2) (by omega)).trans c3⟩, h.frozenAt _, h.frozenAt _, h.frozenAt _⟩
/-- what a call hands back that grows splits -/
def GrowOut (base : Nat) (r : List Sp3 × Int × Bool) (w : World) (e : Ending) (w' : World) : Prop := ∃ v, e = .returned (.tuple #[v, .int .i64 r.2.1, .bool r.2.2]) ∧ w'.ownsRow base TSp 3 v r.1.length (scells r.1) ∧ Below w.heap.size w w'
def GrowC (F P : Nat) (qs : List QC) (ms : List (Int × Int)) (f : Nat) : Prop := ∀ (kn : List Int), kn.length = P → unkN P kn ≤ f → ∀ (sp : List Sp3), sp.length + 2 ^ unkN P kn ≤ 17 → ∀ (B base : Nat) (v u kv sv : Value) (w : World), RdStory w B v qs → RdMarks w B u ms → RdInts w B kv kn → B ≤ w.heap.size → w.ownsRow base TSp 3 sv sp.length (scells sp) → base ≤ w.heap.size →
    Calls Tryd.prog F #[.int .i64 (P : Int), v, u, kv, sv] w (GrowOut base (growR P (hfV P ms) (clL P (qs.map (·.2))) f kn sp) w)
end Go.Proofs.YtefmoljipbbmmaaDoor
/- Contract of the reference's l11Grow. -/
namespace Go.Proofs.YtefmoljipbbmmaaDoor
open Go.RowKit Go.Joins
attribute [local irreducible] holds tabN tabV holdsV sameV followsV alwaysV matterV claimOk mayT mayV ctabV ctabN storyV storyOk storyN storyT ctermV ctermL followsF agreeN agreeB closeB chkN checks nextOk ints hfV clL provesF onceB proofV noneK growR clashF leastU unkN scells WhoP
end Go.Proofs.YtefmoljipbbmmaaDoor
/- Contract of the reference's FindProof. -/
namespace Go.Proofs.YtefmoljipbbmmaaDoor
open Go.RowKit Go.Joins
theorem isSome_noneT : (none : Option PT).isSome = false := rfl
/-- what a call hands back that finds a proof, in memory of its own -/
def FindOut (sp : List Sp3) (fi : Int) (ok : Bool) (w : World) (e : Ending) (w' : World) : Prop := ∃ v, e = .returned (.tuple #[.agg #[.int .i64 fi, v], .bool ok]) ∧ w'.ownsRow w.heap.size TSp 3 v sp.length (scells sp) ∧ Below w.heap.size w w'
/-- what is found, as splits and a first target -/
def foundS (o : Option PT) : List Sp3 := match o with | some t => t.flat 0 | none => []
def foundG (o : Option PT) : Int := match o with | some t => t.tgt 0 | none => 0
theorem below_own_set {w w' w'' : World} (hb : Below w.heap.size w w') (hg : w'.grownBy w'' (some w.heap.size)) : Below w.heap.size w w'' := hb.trans ⟨hg.os, hg.tape, hg.output, hg.size, fun k hk => hg.block k (by have := hb.size; omega) (fun e => by cases e; omega)⟩
theorem proof_fin {w wB : World} {a b v : Value} {sp : List Sp3} (hx : Box wB w.heap.size a b) (hb : Below w.heap.size w wB) (ho : wB.ownsRow (w.heap.size + 1) TSp 3 v sp.length (scells sp)) (fi : Int) (ok : Bool) :
    ∃ w6, w6 = (wB.setCell ⟨w.heap.size, 0, none⟩ (.int .i64 fi)).setCell ⟨w.heap.size, 1, none⟩ v ∧ Box w6 w.heap.size (.int .i64 fi) v ∧ FindOut sp fi ok w (.returned (.tuple #[.agg #[.int .i64 fi, v], .bool ok])) w6 := by
  obtain ⟨w6, e6, h6, g6⟩ := hx.set (.int .i64 fi) v
  exact ⟨w6, e6, h6, v, rfl, own_mono (own_row ho g6 (by omega)) (by omega), below_own_set hb g6⟩
theorem findF_no1 {p : Int} {s : List Cl} {ms : List (Int × Int)} (h : storyOk p s = false) : findF p s ms = none := by unfold findF; rw [h]; rfl
theorem findF_no2 {p : Int} {s : List Cl} {ms : List (Int × Int)} (h : termOk p ms = false) : findF p s ms = none := by unfold findF; rw [h]; simp
theorem findF_yes {p : Int} {s : List Cl} {ms : List (Int × Int)} (hs : storyOk p s = true) (ht : termOk p ms = true) : findF p s ms = growT p.toNat (hfV p ms) (clL p s) p.toNat (noneK p.toNat) := by unfold findF; rw [hs, ht]; rfl
/-- what is grown from nothing, as what is found -/
theorem grown_found {P : Nat} {hf : Nat → Bool} {cl : List (Nat → Bool)} : (growR P hf cl P (noneK P) []).2.2 = (growT P hf cl P (noneK P)).isSome ∧ ((growT P hf cl P (noneK P)).isSome = true → (growR P hf cl P (noneK P) []).1 = foundS (growT P hf cl P (noneK P)) ∧ (growR P hf cl P (noneK P) []).2.1 = foundG (growT P hf cl P (noneK P))) := by
  cases h : growT P hf cl P (noneK P) with
  | none => exact ⟨grow_none h [], fun h => by cases h⟩
  | some t =>
    have := grow_found h []
    rw [this]
    exact ⟨rfl, fun _ => ⟨rfl, rfl⟩⟩
theorem noneK_17 {P : Nat} (h : P ≤ 4) : ([] : List Sp3).length + 2 ^ unkN P (noneK P) ≤ 17 := by
  rw [noneK_unk]
  have : 2 ^ P ≤ 2 ^ 4 := Nat.pow_le_pow_right (by decide) h
  simp; omega
theorem own_made11 (w : World) : (w.alloc (.cells #[] TSp)).ownsRow w.heap.size TSp 3 (.slice (some ⟨w.heap.size, 0, none⟩) 0 0) ([] : List Sp3).length (scells []) := World.ownsRow_made _ _ 0 (Nat.le_refl _) (by unfold maxLen; omega) rfl
theorem own_nil11 (w : World) (base : Nat) : w.ownsRow base TSp 3 (.slice none 0 0) ([] : List Sp3).length (scells []) := World.ownsRow_nil _ _ _ _
attribute [local irreducible] holds tabN tabV holdsV sameV followsV alwaysV matterV claimOk mayT mayV ctabV ctabN storyV storyOk storyN storyT ctermV ctermL followsF agreeN agreeB closeB chkN checks nextOk ints hfV clL provesF onceB proofV noneK growR clashF leastU unkN scells findF growT foundS foundG
end Go.Proofs.YtefmoljipbbmmaaDoor
/- Texts of terms: what the trees read as, and contracts of the program's small functions over texts. -/
namespace Go.Proofs.YtefmoljipbbmmaaDoor
open Go.RowKit

/-- the kind of the last mark -/
def Tm.last : Tm → Int
  | .leaf k _ => k
  | .un _ => 2
  | .bin k _ _ => k
def sign (k : Int) : UInt8 := if k = 3 then 38 else if k = 4 then 124 else 61
def within (l : List UInt8) (last k : Int) : List UInt8 := if k < last then 40 :: (l ++ [41]) else l
/-- the text of a term -/
def txt : Tm → List UInt8
  | .leaf k x => if k = 0 then [UInt8.ofNat (97 + x.toNat)] else [UInt8.ofNat (48 + x.toNat)]
  | .un t => 33 :: within (txt t) t.last 2
  | .bin k a b => within (txt a) a.last k ++ sign k :: within (txt b) b.last (k - 1)
theorem within_len (l : List UInt8) (a k : Int) : (within l a k).length ≤ l.length + 2 := by
  unfold within; split <;> simp
/-- a text has at most five signs a mark -/
theorem txt_len : ∀ t : Tm, (txt t).length ≤ 5 * t.post.length
  | .leaf k x => by unfold txt; split <;> simp [Tm.post]
  | .un t => by
    have := txt_len t
    have h := within_len (txt t) t.last 2
    simp [txt, Tm.post]; omega
  | .bin k a b => by
    have h1 := txt_len a
    have h2 := txt_len b
    have h3 := within_len (txt a) a.last k
    have h4 := within_len (txt b) b.last (k - 1)
    simp [txt, Tm.post]; omega
abbrev sv (l : List UInt8) : Value := .string ⟨l.toArray⟩

set_option maxHeartbeats 1000000 in
theorem itoa (x : Int) (hx : 0 ≤ x ∧ x ≤ 5) (w : World) :
    Calls Tryd.prog 50 #[.int .i64 x] w fun e w' => e = .returned (sv [UInt8.ofNat (48 + x.toNat)]) ∧ w = w' := by
  have h : x = 0 ∨ x = 1 ∨ x = 2 ∨ x = 3 ∨ x = 4 ∨ x = 5 := by omega
  clear hx
  rcases h with rfl | rfl | rfl | rfl | rfl | rfl
  all_goals
    go_enter Tryd.func50, Tryd.ntmps50
    go_wp2
    go_ret
    exact ⟨rfl, rfl⟩
end Go.Proofs.YtefmoljipbbmmaaDoor
/- Contract of the program's text of one mark. -/
namespace Go.Proofs.YtefmoljipbbmmaaDoor
open Go.RowKit

theorem below_undrewY {B : Nat} {w w' : World} (h : Below B w.drew w') : Below B w w' := ⟨h.os, h.tape, h.output, h.size, h.block⟩
/-- the slice v has a part's text and last kind at place j -/
def PartAtX (w : World) (B : Nat) (ao : Option Addr) (j : Nat) (l : List UInt8) (k : Int) : Prop :=
  ∃ b off, ao = some ⟨b, off, none⟩ ∧ b < B ∧ w.cell? ⟨b, off + j * 2, none⟩ = some (sv l) ∧ w.cell? ⟨b, off + j * 2 + 1, none⟩ = some (.int .i64 k)
theorem below_undrewX {w w' : World} {n : Nat} (h : Below (w.drewN n).heap.size (w.drewN n) w') : Below w.heap.size w w' := ⟨h.os, h.tape, h.output, h.size, h.block⟩
theorem bs_append (a b : List UInt8) : (⟨a.toArray⟩ : ByteArray) ++ ⟨b.toArray⟩ = ⟨(a ++ b).toArray⟩ := by
  apply ByteArray.ext
  simp

end Go.Proofs.YtefmoljipbbmmaaDoor

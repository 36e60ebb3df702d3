/- Texts of a proof, merged: OddI, LinkI. -/
import Derived.Test.YthiabicleedleaaMerged13
import Derived.Test.YthiabicleedleaaMerged19
import Derived.Test.YthiabicleedleaaMerged15
import Derived.Deep.OwnRows
import Derived.Deep.RegionLaw
/- Contracts of the program's functions of chapter 6. -/
namespace Go.Proofs.Ythiabicleedleaa
open Go.RowKit Go.Joins
theorem wl_len_step (T : Nat) : ∀ k, (wl T (k + 1)).length = T % 2 + (wl (T / 2) k).length := by
  intro k
  induction k with
  | zero =>
    rw [wl_succ, List.length_append]
    have h := bit_mod T 0
    rw [Nat.shiftRight_zero] at h
    rw [h]
    cases T.testBit 0 <;> rfl
  | succ k ih =>
    rw [wl_succ, List.length_append, ih, wl_succ (T / 2) k, List.length_append, Nat.testBit_succ]
    cases (T / 2).testBit k <;> simp <;> omega
theorem wl_heads : ∀ (N T : Nat), N ≤ 32 → T < 2 ^ N → (wl T N).length = heads T := by
  intro N
  induction N with
  | zero =>
    intro T _ h
    obtain rfl : T = 0 := by simpa using h
    rw [heads_nil]; rfl
  | succ N ih =>
    intro T hN h
    have h32 : 2 ^ (N + 1) ≤ 2 ^ 32 := Nat.pow_le_pow_right (by omega) hN
    rw [wl_len_step, heads_step T (by omega), ih (T / 2) (by omega) (by rw [Nat.pow_succ] at h; omega)]
theorem nest_term {p kw k : Int} {ms : List (Int × Int)} : claimOk p (kw, ctermV p (k, ms)) = nestOk p kw (k, ms) := by
  cases hok : claimOk p (k, ms) with
  | false =>
    rw [(nest_no (kw := kw) hok).1, ctermV_no hok]
    cases h : claimOk p (kw, []) with
    | false => rfl
    | true =>
      obtain ⟨_, _, t, _, he⟩ := termOk_iff.1 (claimOk_iff.1 h).2.2.1
      have := congrArg List.length he
      cases t <;> simp [Tm.post] at this
  | true =>
    rw [ctermV_yes hok]
    unfold nestOk nestL
    rw [hok]; rfl
theorem nestV_term {p kw k : Int} {ms : List (Int × Int)} (h : nestOk p kw (k, ms) = true) : nestV p kw (k, ms) = (kw, ctermV p (k, ms)) := by
  have h1 := (nest_both h).1
  rw [ctermV_yes h1]
  unfold nestV nestL
  rw [h]; rfl
theorem nestV_none {p kw k : Int} {ms : List (Int × Int)} (h : nestOk p kw (k, ms) = false) : nestV p kw (k, ms) = (0, []) := by
  unfold nestV; rw [h]; rfl
/-- the result's variable, and the marks of what is said -/
theorem kind_laid2 (w : World) (l : Int) : ∃ w2 : World, w2 = (w.alloc (.cells #[.int .i64 0, .slice none 0 0] TC)).alloc (.cells #[.int .i64 0, .int .i64 l] TM) ∧
    Box w2 w.heap.size (.int .i64 0) (.slice none 0 0) ∧ w2.ownsRow (w.heap.size + 1) TM 2 (.slice (some ⟨w.heap.size + 1, 0, none⟩) 1 1) 1 (mcells [(0, l)]) ∧ Below w.heap.size w w2 ∧ w2.heap.size = w.heap.size + 2 := by
  obtain ⟨w1, e1, h1, b1, s1⟩ := Box.new w (.int .i64 0) (.slice none 0 0) TC
  have z1 : w1.heap.size = w.heap.size + 1 := by rw [e1]; simp
  obtain ⟨w2, e2⟩ : ∃ w2, w2 = w1.alloc (.cells #[.int .i64 0, .int .i64 l] TM) := ⟨_, rfl⟩
  have z2 : w2.heap.size = w.heap.size + 2 := by rw [e2]; simp [z1]
  have ho2 : w2.ownsRow (w.heap.size + 1) TM 2 (.slice (some ⟨w.heap.size + 1, 0, none⟩) 1 1) 1 (mcells [(0, l)]) := by
    have h := own_new w1 (w.heap.size + 1) 0 l (by omega)
    rw [z1] at h
    rw [e2]; exact h
  have b2 : Below w1.heap.size w1 w2 := by rw [e2]; exact (Below.refl _ _).alloc (Nat.le_refl _) _
  exact ⟨w2, by rw [e2, e1], h1.below b2, ho2, b1.trans (b2.mono (by omega)), z2⟩
attribute [local irreducible] holds tabN tabV holdsV sameV followsV alwaysV matterV claimOk mayT mayV ctabV ctabN storyV storyOk storyN storyT ctermV ctermL sayV neverV alwsV nestOk nestV kindOk kindV denyV denyOk allV
set_option maxRecDepth 100000 in
set_option maxHeartbeats 4000000 in
theorem implKindClaim (p k l : Int) (t : Bool) (hl : I64 l) (w : World) :
    Calls Try.prog 54 #[.int .i64 p, .int .i64 k, .int .i64 l, .bool t] w (ClaimOut (kindV p k l t) (kindOk p k l t) w) := by
  obtain ⟨im, hmi, hmz0, hmz1, hmz2⟩ := info_parts Try.infoM
  have Mi := Lib.hid hmi; clear hmi
  have Mz0 := Lib.hid hmz0; clear hmz0
  have Mz1 := Lib.hid hmz1; clear hmz1
  have Mz2 := Lib.hid hmz2; clear hmz2
  obtain ⟨w2, hw2, hx2, ho2, hb2, hs2⟩ := kind_laid2 w l
  have HX2 := Lib.hid hx2
  have HO2 := Lib.hid ho2
  have HB2 := Lib.hid hb2
  have Hl := Lib.hid hl
  clear hx2 ho2 hb2 hl
  cases t with
  | true =>
    have hcl : claimOk p (k, [(0, l)]) = kindOk p k l true := by unfold kindOk; rfl
    have HI : Hid (I64s [((0 : Int), l)]) := I64s_one (I64_small (by omega) (by omega)) Hl.out
    cases hok : kindOk p k l true with
    | false =>
      have Hf := Lib.hid (kindV_no hok)
      have Hif := Lib.hid (fun B u w h hB => implClaimIfOk_no (hcl.trans hok) B u w h hB)
      clear hok hcl
      go_enter Try.func54, Try.ntmps54
      go_upto_region 2 with fail
      rw [← hw2]
      clear hw2
      go_wp2_with fail
      refine (Hif.out w2.heap.size _ w2 (RdMarks.of_own (ms := [(0, l)]) HO2.out HI.out) (Nat.le_refl _)).mono ?_
      rintro e w6 ⟨rfl, hb6⟩
      have hx6 := HX2.out.below hb6
      obtain ⟨w7, e7, hx7, hout⟩ := claim_none (w := w) (by omega) hx6 (HB2.out.trans (hb6.mono (by omega))) (by have h := Hf.out; exact h)
      rw [Hf.out.1] at hout
      have E7 := Lib.hid e7
      have Hout := Lib.hid hout
      obtain ⟨y1, y2, y3, y4, y5⟩ := hx6
      clear e7 hout hb6
      go_wp2
      rw [← E7.out]
      obtain ⟨z1, z2, _⟩ := hx7
      exact bodyPost_ret (by simp [results, Try.results54, go_sem, z1, z2]) rfl Hout.out
    | true =>
      have Hf := Lib.hid (kindV_yes hok)
      have Hif := Lib.hid (fun B u w h hB => implClaimIfOk_yes (hcl.trans hok) B u w h hB)
      clear hok hcl
      go_enter Try.func54, Try.ntmps54
      go_upto_region 2 with fail
      rw [← hw2]
      clear hw2
      go_wp2_with fail
      refine (Hif.out w2.heap.size _ w2 (RdMarks.of_own (ms := [(0, l)]) HO2.out HI.out) (Nat.le_refl _)).mono ?_
      rintro e w6 ⟨rfl, hb6⟩
      have hx6 := HX2.out.below hb6
      obtain ⟨w7, e7, hx7, hout⟩ := claim_some (w := w) (base := w.heap.size + 1) (k := k) (ms := [(0, l)]) (Nat.le_refl _) (by omega) hx6 (HB2.out.trans (hb6.mono (by omega))) (own_below HO2.out hb6) (by have h := Hf.out; exact h)
      rw [Hf.out.1] at hout
      have E7 := Lib.hid e7
      have Hout := Lib.hid hout
      obtain ⟨y1, y2, y3, y4, y5⟩ := hx6
      clear e7 hout hb6
      go_wp2
      rw [← E7.out]
      obtain ⟨z1, z2, _⟩ := hx7
      exact bodyPost_ret (by simp [results, Try.results54, go_sem, z1, z2]) rfl Hout.out
  | false =>
    have hcl : claimOk p (k, [(0, l), (2, 0)]) = kindOk p k l false := by unfold kindOk; rfl
    have HI : Hid (I64s [((0 : Int), l), (2, 0)]) := I64s_two (I64_small (by omega) (by omega)) Hl.out (I64_small (by omega) (by omega)) (I64_small (by omega) (by omega))
    cases hok : kindOk p k l false with
    | false =>
      have Hf := Lib.hid (kindV_no hok)
      have Hif := Lib.hid (fun B u w h hB => implClaimIfOk_no (hcl.trans hok) B u w h hB)
      clear hok hcl
      go_enter Try.func54, Try.ntmps54
      go_upto_region 2 with fail
      rw [← hw2]
      clear hw2
      go_wp2_with (first
        | (at_builtin; refine wpList_append_own_at _ rfl (.tmp 16) (.tmp 18) 31 rfl (w.heap.size + 1) TM im (.agg #[.int .i64 0, .int .i64 0]) 2 16 Try.underlying31 Mi.out Mz0.out Mz1.out Mz2.out rfl (by decide) _ _ _ rfl (HO2.out.alloc _) ⟨w.heap.size + 2, 0, none⟩ 1 1 (mcells [(2, 0)]) rfl rfl (news2 _ _ (by omega) _ _ _) (mcells_one _) (by unfold maxLen; omega) (by omega) (by simp; omega) ?_
           go_must (intro v4 w4 hown4 hgr4 _ hat4
                    have hgr4' : (w2.alloc (.cells #[.int .i64 2, .int .i64 0] TM)).grownBy w4 (some (w.heap.size + 1)) := hgr4
                    have Hx4 := Lib.hid ((HX2.out.alloc (.cells #[.int .i64 2, .int .i64 0] TM)).grown hgr4' (by simp))
                    have Hb4 := Lib.hid (below_rowD (HB2.out.alloc (by omega) (.cells #[.int .i64 2, .int .i64 0] TM)) hgr4' (fun q hq => by cases hq; omega))
                    have hs4 := hgr4'.size
                    simp at hs4
                    have hat4' : v4.ownBlock = some (w.heap.size + 1) ∨ v4.ownBlock = some (w2.alloc (.cells #[.int .i64 2, .int .i64 0] TM)).heap.size := hat4
                    obtain ⟨a4, c4, hv4⟩ := own_len hown4
                    subst hv4
                    have Hown4 : Hid (w4.ownsRow (w.heap.size + 1) TM 2 (.slice a4 (1 + 1) c4) 2 (mcells [(0, l), (2, 0)])) := hown4
                    clear hown4 hgr4 hgr4' hat4 hat4'))
        | fail)
      refine (Hif.out w4.heap.size _ w4 (RdMarks.of_own (ms := [(0, l), (2, 0)]) Hown4.out HI.out) (Nat.le_refl _)).mono ?_
      rintro e w6 ⟨rfl, hb6⟩
      have hx6 := Hx4.out.below hb6
      obtain ⟨w7, e7, hx7, hout⟩ := claim_none (w := w) (by omega) hx6 (Hb4.out.trans (hb6.mono (by omega))) (by have h := Hf.out; exact h)
      rw [Hf.out.1] at hout
      have E7 := Lib.hid e7
      have Hout := Lib.hid hout
      obtain ⟨y1, y2, y3, y4, y5⟩ := hx6
      clear e7 hout hb6
      go_wp2
      rw [← E7.out]
      obtain ⟨z1, z2, _⟩ := hx7
      exact bodyPost_ret (by simp [results, Try.results54, go_sem, z1, z2]) rfl Hout.out
    | true =>
      have Hf := Lib.hid (kindV_yes hok)
      have Hif := Lib.hid (fun B u w h hB => implClaimIfOk_yes (hcl.trans hok) B u w h hB)
      clear hok hcl
      go_enter Try.func54, Try.ntmps54
      go_upto_region 2 with fail
      rw [← hw2]
      clear hw2
      go_wp2_with (first
        | (at_builtin; refine wpList_append_own_at _ rfl (.tmp 16) (.tmp 18) 31 rfl (w.heap.size + 1) TM im (.agg #[.int .i64 0, .int .i64 0]) 2 16 Try.underlying31 Mi.out Mz0.out Mz1.out Mz2.out rfl (by decide) _ _ _ rfl (HO2.out.alloc _) ⟨w.heap.size + 2, 0, none⟩ 1 1 (mcells [(2, 0)]) rfl rfl (news2 _ _ (by omega) _ _ _) (mcells_one _) (by unfold maxLen; omega) (by omega) (by simp; omega) ?_
           go_must (intro v4 w4 hown4 hgr4 _ hat4
                    have hgr4' : (w2.alloc (.cells #[.int .i64 2, .int .i64 0] TM)).grownBy w4 (some (w.heap.size + 1)) := hgr4
                    have Hx4 := Lib.hid ((HX2.out.alloc (.cells #[.int .i64 2, .int .i64 0] TM)).grown hgr4' (by simp))
                    have Hb4 := Lib.hid (below_rowD (HB2.out.alloc (by omega) (.cells #[.int .i64 2, .int .i64 0] TM)) hgr4' (fun q hq => by cases hq; omega))
                    have hs4 := hgr4'.size
                    simp at hs4
                    have hat4' : v4.ownBlock = some (w.heap.size + 1) ∨ v4.ownBlock = some (w2.alloc (.cells #[.int .i64 2, .int .i64 0] TM)).heap.size := hat4
                    obtain ⟨a4, c4, hv4⟩ := own_len hown4
                    subst hv4
                    have Hown4 : Hid (w4.ownsRow (w.heap.size + 1) TM 2 (.slice a4 (1 + 1) c4) 2 (mcells [(0, l), (2, 0)])) := hown4
                    clear hown4 hgr4 hgr4' hat4 hat4'))
        | fail)
      refine (Hif.out w4.heap.size _ w4 (RdMarks.of_own (ms := [(0, l), (2, 0)]) Hown4.out HI.out) (Nat.le_refl _)).mono ?_
      rintro e w6 ⟨rfl, hb6⟩
      have hx6 := Hx4.out.below hb6
      obtain ⟨w7, e7, hx7, hout⟩ := claim_some (w := w) (base := w.heap.size + 1) (k := k) (ms := [(0, l), (2, 0)]) (Nat.le_refl _) (by omega) hx6 (Hb4.out.trans (hb6.mono (by omega))) (own_below Hown4.out hb6) (by have h := Hf.out; exact h)
      rw [Hf.out.1] at hout
      have E7 := Lib.hid e7
      have Hout := Lib.hid hout
      obtain ⟨y1, y2, y3, y4, y5⟩ := hx6
      clear e7 hout hb6
      go_wp2
      rw [← E7.out]
      obtain ⟨z1, z2, _⟩ := hx7
      exact bodyPost_ret (by simp [results, Try.results54, go_sem, z1, z2]) rfl Hout.out
end Go.Proofs.Ythiabicleedleaa
/- Contracts of the program's functions of links. -/
namespace Go.Proofs.Ythiabicleedleaa
open Go.RowKit Go.Joins
theorem links_nopeople {p : Int} (h : pOk p = false) (ls : List Lk) : linksOk p ls = false := by unfold linksOk; rw [h]; simp
theorem links_long {p : Int} {ls : List Lk} (h : ¬ ls.length ≤ 6) : linksOk p ls = false := by unfold linksOk; rw [decide_eq_false h]; simp
theorem links_full {p : Int} {ls : List Lk} (hp : pOk p = true) (h6 : ls.length ≤ 6) (h : ∀ j, j < ls.length → linkOk1 p (ls.getD j lk0) = true) : linksOk p ls = true := by
  rw [links_all h]
  unfold pOk at hp
  rw [hp, decide_eq_true h6]; rfl
theorem link1_no1 {p a b : Int} {t : Bool} (h : decide (0 ≤ a ∧ a < p) = false) : linkOk1 p (a, b, t) = false := by
  rw [decide_eq_false_iff_not] at h
  unfold linkOk1
  exact decide_eq_false fun hh => h ⟨hh.1, hh.2.1⟩
theorem link1_no2 {p a b : Int} {t : Bool} (h : decide (0 ≤ b ∧ b < p) = false) : linkOk1 p (a, b, t) = false := by
  rw [decide_eq_false_iff_not] at h
  unfold linkOk1
  exact decide_eq_false fun hh => h hh.2.2
theorem link1_yes {p a b : Int} {t : Bool} (h : decide (0 ≤ a ∧ a < p) = true) (h' : decide (0 ≤ b ∧ b < p) = true) : linkOk1 p (a, b, t) = true := by
  rw [decide_eq_true_eq] at h h'
  unfold linkOk1
  exact decide_eq_true ⟨h.1, h.2, h'.1, h'.2⟩
/-- a variable of three cells, just laid -/
theorem link_laid (w : World) (a b c : Value) (T : TypeId) : ∃ w1 : World, w1 = w.alloc (.cells #[a, b, c] T) ∧ (w1.cell? ⟨w.heap.size, 0, none⟩ = some a ∧ w1.cell? ⟨w.heap.size, 1, none⟩ = some b ∧ w1.cell? ⟨w.heap.size, 2, none⟩ = some c) ∧ Below w.heap.size w w1 ∧ w1.heap.size = w.heap.size + 1 := by
  have hh := heap_alloc_new w (.cells #[a, b, c] T)
  refine ⟨_, rfl, ⟨?_, ?_, ?_⟩, (Below.refl _ _).alloc (Nat.le_refl _) _, by simp⟩
  · have := cell_of_row (w.alloc (.cells #[a, b, c] T)) w.heap.size 0 _ T (0, 0) hh
    rw [this]; rfl
  · have := cell_of_row (w.alloc (.cells #[a, b, c] T)) w.heap.size 1 _ T (0, 0) hh
    rw [this]; rfl
  · have := cell_of_row (w.alloc (.cells #[a, b, c] T)) w.heap.size 2 _ T (0, 0) hh
    rw [this]; rfl
theorem own_of_rowIsL {w : World} {base g n T : Nat} {f : Nat → Value} {xs : List Value} (h : w.rowIs g T n f) (hb : base ≤ g) (hn : n ≤ maxLen) (hl : xs.length = n) (hx : ∀ j, j < n → xs[j]? = some (f j)) : w.ownsRow base T 1 (.slice (some ⟨g, 0, none⟩) n n) n xs := by
  obtain ⟨c, hc, hs, hf⟩ := h
  refine ⟨by omega, .inr ⟨g, n, c, rfl, hb, hc, Nat.le_refl _, hn, by omega, ?_⟩⟩
  refine List.ext_getElem? fun j => ?_
  by_cases hj : j < n
  · rw [List.getElem?_take, if_pos (by omega), hx j hj]
    simpa using hf j hj
  · rw [List.getElem?_eq_none (by simp; omega), List.getElem?_eq_none (by omega)]
theorem row_nextL {w : World} {g P k T : Nat} {f : Nat → Int} {x : Int} (h : w.rowIs g T P (fun q => if q < k then .int .i64 (f q) else .int .i64 0)) (hx : f k = x) : (w.setCell ⟨g, k, none⟩ (.int .i64 x)).rowIs g T P (fun q => if q < k + 1 then .int .i64 (f q) else .int .i64 0) :=
  (h.set k (.int .i64 x)).congr fun q _ => by
    by_cases e : q = k
    · subst e; simp [hx]
    · rw [if_neg e]
      by_cases h1 : q < k
      · rw [if_pos h1, if_pos (by omega)]
      · rw [if_neg h1, if_neg (by omega)]
theorem below_grownL {B : Nat} {w w1 w2 : World} {row : Option Nat} (h : Below B w w1) (hg : w1.grownBy w2 row) (hB : B ≤ w1.heap.size) (hr : ∀ k, row = some k → B ≤ k) : Below B w w2 :=
  h.trans ⟨hg.os, hg.tape, hg.output, hg.size, fun i hi => hg.block i (by omega) (fun e => by have := hr i e.symm; omega)⟩
theorem results_noneL {fn : Func} (h : fn.results = #[]) (tmps : Array Value) (P : Program) (w : World) : (results fn tmps).run P w = .ok (.tuple #[]) w := by
  simp [results, h]
/-- how many worlds a story of links has -/
theorem link_count {p : Int} {ls : List Lk} (h : linksOk p ls = true) : (wlp p (storyV p (linkS p ls))).length = heads (storyN p (linkS p ls)) ∧ (wlp p (storyV p (linkS p ls))).length ≤ 16 := by
  have h1 := link_worlds h
  unfold swl at h1
  exact ⟨by rw [h1, link_heads h], swl_len p (linkS p ls)⟩
attribute [local irreducible] holds tabN tabV holdsV sameV followsV alwaysV matterV claimOk mayT mayV ctabV ctabN storyV storyOk storyN storyT ctermV ctermL kindOk kindV linksOk linkOk1 linkC linkS mergeR grpF lcells
set_option maxRecDepth 100000 in
set_option maxHeartbeats 4000000 in
theorem implLinksOk (p : Int) (ls : List Lk) (B : Nat) (v : Value) (w : World) (hr : RdLinks w B v ls) (hB : B ≤ w.heap.size) :
    Calls Try.prog 20 #[.int .i64 p, v] w fun e w' => e = .returned (.bool (linksOk p ls)) ∧ Below w.heap.size w w' := by
  obtain ⟨ao, cap, rfl, hl, hm, _, hc0⟩ := hr
  have hc := Lib.hid hc0; clear hc0
  unfold maxLen at hm
  obtain ⟨wo, rfl⟩ : ∃ wo : World, wo = w := ⟨_, rfl⟩
  have hpe := fun w => implPeopleOk p w
  cases hp : pOk p with
  | false =>
    have Hf := Lib.hid (links_nopeople hp ls)
    rw [hp] at hpe
    have Hp := Lib.hid hpe; clear hp hpe
    go_enter Try.func20, Try.ntmps20
    go_wp2_with fail
    refine (Hp.out _).mono ?_
    rintro e w' ⟨rfl, rfl⟩
    go_wp2
    go_ret
    exact ⟨by rw [Hf.out]; rfl, Below.refl _ _⟩
  | true =>
  rw [hp] at hpe
  by_cases h6 : ls.length ≤ 6
  case neg =>
    have Hf := Lib.hid (links_long (p := p) h6)
    have Hp := Lib.hid hpe; clear hp hpe
    have hgt : 6 < ls.length := by omega
    clear h6
    go_enter Try.func20, Try.ntmps20
    go_wp2_with fail
    refine (Hp.out _).mono ?_
    rintro e w' ⟨rfl, rfl⟩
    go_wp2
    go_ret
    exact ⟨by rw [Hf.out]; rfl, Below.refl _ _⟩
  have Hall := Lib.hid (fun h => links_full hp h6 h)
  have Hp := Lib.hid hpe; clear hp hpe
  go_enter Try.func20, Try.ntmps20
  go_wp2_with fail
  refine (Hp.out _).mono ?_
  rintro e w' ⟨rfl, rfl⟩
  go_wp2
  go_loopw [6, 17] (fun _ i wr => ∃ k : Nat, k ≤ ls.length ∧ i = .int .i64 k ∧ Hid (∀ j, j < k → linkOk1 p (ls.getD j lk0) = true) ∧ Below wo.heap.size wo wr) (fun _ i _ => ls.length - (intOf i).toNat)
  case atStart => exact ⟨0, Nat.zero_le _, rfl, fun j hj => absurd hj (Nat.not_lt_zero _), Below.refl _ _⟩
  case round =>
    obtain ⟨k, hk, rfl, hall, hbel⟩ := hrel
    by_cases hlt : k < ls.length
    · obtain ⟨b, off, rfl, hb, hc1, hc2, hc3⟩ := hc.out k hlt
      rw [← hbel.cell (p := ⟨b, _, none⟩) (show b < _ by omega)] at hc1 hc2 hc3
      have Hbad := Lib.hid (fun h => links_bad (p := p) hlt h)
      have Hall2 : Hid (linkOk1 p (ls.getD k lk0) = true → ∀ j, j < k + 1 → linkOk1 p (ls.getD j lk0) = true) := fun hw j hj => by
        by_cases hjk : j < k
        · exact hall.out j hjk
        · obtain rfl : j = k := by omega
          exact hw
      generalize ls.getD k lk0 = l at *
      obtain ⟨la, lb, lt⟩ := l
      dsimp only at hc1 hc2 hc3
      obtain ⟨w5, hw5, ⟨x1, x2, x3⟩, hb5, hs5⟩ := link_laid wr (.int .i64 la) (.int .i64 lb) (.bool lt) 48
      have Hb5 := Lib.hid (hbel.trans (hb5.mono hbel.size))
      clear hb5 hs5 hbel
      go_upto_region 6 with fail
      rw [← hw5]
      clear hw5 hc1 hc2 hc3
      have hpa := fun w => implPersonOk p la w
      have hpb := fun w => implPersonOk p lb w
      cases ha : decide (0 ≤ la ∧ la < p) with
      | false =>
        have Hf := Lib.hid (Hbad.out (link1_no1 ha))
        rw [ha] at hpa
        have Ha := Lib.hid hpa; clear hpa hpb ha
        go_wp2_with fail
        refine (Ha.out _).mono ?_
        rintro e w' ⟨rfl, rfl⟩
        go_wp2
        go_ret
        exact ⟨by rw [Hf.out]; rfl, Hb5.out⟩
      | true =>
        rw [ha] at hpa
        have Ha := Lib.hid hpa; clear hpa
        cases hb' : decide (0 ≤ lb ∧ lb < p) with
        | false =>
          have Hf := Lib.hid (Hbad.out (link1_no2 hb'))
          rw [hb'] at hpb
          have Hb := Lib.hid hpb; clear hpb ha hb'
          go_wp2_with fail
          refine (Ha.out _).mono ?_
          rintro e w' ⟨rfl, rfl⟩
          go_wp2_with fail
          refine (Hb.out _).mono ?_
          rintro e w' ⟨rfl, rfl⟩
          go_wp2
          go_ret
          exact ⟨by rw [Hf.out]; rfl, Hb5.out⟩
        | true =>
          have Hs := Lib.hid (Hall2.out (link1_yes ha hb'))
          rw [hb'] at hpb
          have Hb := Lib.hid hpb; clear hpb ha hb'
          go_wp2_with fail
          refine (Ha.out _).mono ?_
          rintro e w' ⟨rfl, rfl⟩
          go_wp2_with fail
          refine (Hb.out _).mono ?_
          rintro e w' ⟨rfl, rfl⟩
          go_wp2
          go_roundw
          case rel => exact ⟨k + 1, by omega, by go_num, Hs.out, Hb5.out⟩
          case measure => simp [intOf]; omega
    · obtain rfl : k = ls.length := by omega
      have Hv := Lib.hid (Hall.out hall.out)
      have Hbel := Lib.hid hbel
      clear hall hbel
      go_wp2
      go_ret
      exact ⟨by rw [Hv.out]; rfl, Hbel.out⟩
set_option maxRecDepth 100000 in
set_option maxHeartbeats 8000000 in
theorem implLinkStory (p : Int) (ls : List Lk) (B : Nat) (v : Value) (w : World) (hr : RdLinks w B v ls) (hB : B ≤ w.heap.size) :
    Calls Try.prog 23 #[.int .i64 p, v] w (StoryOut (linkS p ls) (linksOk p ls) w) := by
  obtain ⟨ic, hci, hcz0, hcz1, hcz2⟩ := info_parts Try.infoC12
  have Ci := Lib.hid hci; clear hci
  have Cz0 := Lib.hid hcz0; clear hcz0
  have Cz1 := Lib.hid hcz1; clear hcz1
  have Cz2 := Lib.hid hcz2; clear hcz2
  obtain ⟨wo, rfl⟩ : ∃ wo : World, wo = w := ⟨_, rfl⟩
  have hso := fun w h hB => implLinksOk p ls B v w h hB
  obtain ⟨lo, lc, rfl, hll, hlm⟩ : ∃ lo lc, v = .slice lo ls.length lc ∧ ls.length ≤ lc ∧ lc ≤ maxLen := by
    obtain ⟨a, c, h1, h2, h3, _⟩ := hr; exact ⟨a, c, h1, h2, h3⟩
  unfold maxLen at hlm
  have hst0 : ∀ w', StoryIn w' wo.heap.size wo.heap.size (.slice none 0 0) [] := fun w' => ⟨World.ownsRow_nil _ _ _ _, fun q hq => by simp at hq⟩
  have Hst0 := Lib.hid hst0; clear hst0
  cases hok : linksOk p ls with
  | false =>
    have Hf := Lib.hid (linkS_no hok)
    rw [hok] at hso
    have Hso := Lib.hid hso
    have Hr := Lib.hid hr
    clear hso hok hr
    go_enter Try.func23, Try.ntmps23
    go_wp2_with fail
    refine (Hso.out _ Hr.out hB).mono ?_
    rintro e w' ⟨rfl, hb1⟩
    have Hb1 := Lib.hid hb1; clear hb1
    go_wp2
    go_ret2
    exact ⟨_, [], rfl, by rw [Hf.out]; rfl, Hst0.out _, List.Pairwise.nil, Hb1.out⟩
  | true =>
    obtain ⟨hmem, h1, h4, h6⟩ := linksOk_iff.1 hok
    have Hf := Lib.hid (linkS_yes hok)
    have Hkind : Hid (∀ k, k < ls.length → kindOk p (ls.getD k lk0).1 (ls.getD k lk0).2.1 (ls.getD k lk0).2.2 = true) := fun k hk => by
      rw [show ls.getD k lk0 = ls[k] by simp [List.getD, hk]]
      exact link_kind hok (List.getElem_mem hk)
    have Hend : Hid (ls.take ls.length = ls) := List.take_length
    have Htake := Lib.hid (fun k hk => link_take p ls k hk)
    rw [hok] at hso
    have Hso := Lib.hid hso
    have Hr := Lib.hid hr
    clear hso hok hr hmem h1 h4
    go_enter Try.func23, Try.ntmps23
    go_wp2_with fail
    refine (Hso.out _ Hr.out hB).mono ?_
    rintro e w1 ⟨rfl, hb1⟩
    have Hb1 := Lib.hid hb1; clear hb1
    go_wp2
    go_loopw [6, 8, 9, 10, 17] (fun u _ _ _ i wr => ∃ (k : Nat) (us : List QC), k ≤ ls.length ∧ us.length = k ∧ i = .int .i64 k ∧ us.map (·.2) = (ls.take k).map (linkC p) ∧ (∃ ao cp, u = .slice ao k cp) ∧ StoryIn wr wo.heap.size wo.heap.size u us ∧ Apart us ∧ Below wo.heap.size wo wr) (fun _ _ _ _ i _ => ls.length - (intOf i).toNat)
    case atStart => exact ⟨0, [], Nat.zero_le _, rfl, rfl, rfl, ⟨_, _, rfl⟩, Hst0.out _, List.Pairwise.nil, Hb1.out⟩
    case round =>
      clear Hb1
      obtain ⟨k, us, hk, hul, rfl, hum, ⟨uo, uc, rfl⟩, hst, hap, hbel⟩ := hrel
      by_cases hlt : k < ls.length
      · have Hrs := Lib.hid (Hr.out.below (w' := wr) (fun q hq => hbel.block q (by omega)))
        obtain ⟨ao', cap', hv', _, _, hl64, hc0⟩ := Hrs.out
        obtain ⟨b, off, hao, hb, hc1, hc2, hc3⟩ := hc0 k hlt
        injection hv' with hv1 hv2 hv3
        subst hv1 hv3
        subst hao
        have hmem : ls.getD k lk0 ∈ ls := by rw [show ls.getD k lk0 = ls[k] by simp [List.getD, hlt]]; exact List.getElem_mem hlt
        have hl2 := (hl64 _ hmem).2
        have hkd := Hkind.out k hlt
        have hki := kind_I64 hkd
        have htk := Htake.out k hlt
        unfold linkC at htk
        rw [show (fun l : Lk => kindV p l.1 l.2.1 l.2.2) = linkC p by unfold linkC; rfl] at htk
        clear hc0 hv2 hmem hl64 hkd
        generalize ls.getD k lk0 = l at *
        obtain ⟨la, lb, lt⟩ := l
        dsimp only at hc1 hc2 hc3 hl2 hki htk
        have Hkc := Lib.hid (fun w => implKindClaim p la lb lt hl2 w)
        generalize kindV p la lb lt = c at *
        generalize kindOk p la lb lt = o at *
        obtain ⟨ck, cm⟩ := c
        dsimp only at hki htk
        unfold ClaimOut at Hkc
        dsimp only at Hkc
        have Hki := Lib.hid hki
        have Htk := Lib.hid htk
        have Hum := Lib.hid hum
        have hwr : wo.heap.size ≤ wr.heap.size := hbel.size
        obtain ⟨w5, hw5, ⟨x1, x2, x3⟩, hb5, hs5⟩ := link_laid wr (.int .i64 la) (.int .i64 lb) (.bool lt) 48
        have Hst := Lib.hid (hst.below hb5)
        have Hap := Lib.hid hap
        have Hbel := Lib.hid (hbel.trans (hb5.mono hwr))
        have hw5s : wo.heap.size ≤ w5.heap.size := by omega
        clear hki htk hum hst hap hbel hl2 hb5 hs5
        go_upto_region 7 with fail
        rw [← hw5]
        clear hw5 hc1 hc2 hc3
        go_wp2_with fail
        refine (Hkc.out _).mono ?_
        rintro e wn ⟨vc, rfl, hown, hbn⟩
        obtain ⟨fo, fc, hf⟩ := own_len hown
        subst hf
        obtain ⟨wC, hwC, hx, hbC, _⟩ := Box.new wn (.int .i64 ck) (.slice fo cm.length fc) TC
        have HbC := hbn.trans (hbC.mono hbn.size)
        have HoC := own_below hown hbC
        have hwC' := Lib.hid hwC
        have hbC2 := Hbel.out.trans (HbC.mono hw5s)
        have hsC := hbC2.size
        have Hall := Lib.hid (fun v' w5 h1 h2 => story_pushed (w5 := w5) (v' := v') (u := .slice fo cm.length fc) (k := ck) (ms := cm) (o := .cells #[.int .i64 ck, .slice fo cm.length fc] TC) hbC2 (Hst.out.below HbC) Hap.out (fun r hr k hk => ((Hst.out.2 r hr).1.lt k hk).2) HoC hw5s Hki.out.1 Hki.out.2.1 h1 h2)
        have HstC := Lib.hid ((Hst.out.below HbC).1)
        have hus6 : us.length ≤ 6 := by omega
        have Hx := Lib.hid hx
        clear hbC2 HbC HoC hbn hbC hown hwC hx x1 x2 x3
        go_upto_region 8 with fail
        rw [← hwC'.out]
        clear hwC'
        obtain ⟨z1, z2, z3, z4, z5⟩ := Hx.out
        go_wp2_with (at_builtin; refine wpList_append_own _ rfl _ _ 26 rfl wo.heap.size TC ic (.agg #[.int .i64 0, .slice none 0 0]) 2 32 Try.underlying26 Ci.out Cz0.out Cz1.out Cz2.out rfl (by decide) _ _ _ rfl (HstC.out.alloc _) ⟨wC.heap.size, 0, none⟩ 1 1 (ccells [(.slice fo cm.length fc, (ck, cm))]) rfl rfl (newsC _ _ rfl _ _ _ _) (ccells_one (by simp [Value.oneCell'])) (by unfold maxLen; omega) (by omega) (by simp; omega) ?_)
        intro v' w5' hown' hgrow _
        have Hout := Lib.hid (Hall.out v' w5' (by rw [hul]; exact hown') hgrow)
        obtain ⟨ao', cp', rfl⟩ := own_len hown'
        clear hown' hgrow Hall HstC
        go_wp2
        go_roundw
        case rel => exact ⟨k + 1, us ++ [(.slice fo cm.length fc, (ck, cm))], by omega, by simp [hul], by go_num, by rw [List.map_append, Hum.out, Htk.out]; rfl, ⟨ao', cp', by simp⟩, Hout.out.1, Hout.out.2.1, Hout.out.2.2⟩
        case measure => simp [intOf]; omega
      · obtain rfl : k = ls.length := by omega
        have Hst := Lib.hid hst
        have Hum := Lib.hid hum
        have Hap := Lib.hid hap
        have Hbel := Lib.hid hbel
        clear hst hum hap hbel
        go_wp2
        go_ret2
        exact ⟨_, us, rfl, by rw [Hum.out, Hend.out, Hf.out], Hst.out, Hap.out, Hbel.out⟩
set_option maxRecDepth 100000 in
set_option maxHeartbeats 4000000 in
theorem implMergeGroups (base g P cap A C : Nat) (r : List Nat) (hlen : r.length = P) (hP : P ≤ 4) (hA : A ≤ 10) (hC : C ≤ 10) (w : World) (hown : w.ownsRow base 3 1 (.slice (some ⟨g, 0, none⟩) P cap) P (vals r)) :
    Calls Try.prog 57 #[.slice (some ⟨g, 0, none⟩) P cap, .int .i64 A, .int .i64 C] w fun e w' => e = .returned (.tuple #[]) ∧ w'.ownsRow base 3 1 (.slice (some ⟨g, 0, none⟩) P cap) P (vals (mixR r (max A C) (min A C) P)) ∧ w.grownBy w' (some g) := by
  obtain ⟨wo, rfl⟩ : ∃ wo : World, wo = w := ⟨_, rfl⟩
  have hAC : max (A : Int) (C : Int) = ((max A C : Nat) : Int) := by omega
  have hAm : min (A : Int) (C : Int) = ((min A C : Nat) : Int) := by omega
  have hMM : max A C ≤ 10 := by omega
  have hmm : min A C ≤ 10 := by omega
  have hcp := own_cap hown
  unfold maxLen at hcp
  have Hown : Hid (wo.ownsRow base 3 1 (.slice (some ⟨g, 0, none⟩) P cap) P (vals (mixR r (max A C) (min A C) 0))) := by unfold Hid; rw [mixR_zero]; exact hown
  have Hlen := Lib.hid hlen
  clear hown hlen
  generalize hM : max A C = M at *
  generalize hm' : min A C = m at *
  have Hite : Hid ((if C < A then (C : Int) else (A : Int)) = (m : Int)) := by unfold Hid; split <;> omega
  have Hite2 : Hid ((if A < C then (C : Int) else (A : Int)) = (M : Int)) := by unfold Hid; split <;> omega
  go_enter Try.func57, Try.ntmps57
  go_upto_region 1 with fail
  rw [Hite.out, Hite2.out]
  clear Hite Hite2 hAC hAm
  go_wp2
  go_loopw [8, 9, 18] (fun _ _ i wt => ∃ j : Nat, j ≤ P ∧ i = .int .i64 j ∧ wt.ownsRow base 3 1 (.slice (some ⟨g, 0, none⟩) P cap) P (vals (mixR r M m j)) ∧ wo.grownBy wt (some g)) (fun _ _ i _ => P - (intOf i).toNat)
  case atStart => exact ⟨0, Nat.zero_le _, rfl, Hown.out, World.grownBy.refl _ _⟩
  case round =>
    clear Hown
    obtain ⟨j, hj, rfl, hown, hgr⟩ := hrel
    by_cases hjk : j < P
    · have hlm : (mixR r M m j).length = P := by rw [mixR_len]; exact Hlen.out
      have hgj := hown.cellAt j (by omega)
      rw [show (vals (mixR r M m j))[j]? = some (.int .i64 (r.getD j 0 : Int)) by unfold vals; rw [List.getElem?_map, mixR_at r M m j (by rw [Hlen.out]; exact hjk)]; rfl] at hgj
      by_cases he : r.getD j 0 = M
      · have Hy := Lib.hid (mixR_yes r M m j (by rw [Hlen.out]; exact hjk) he)
        rw [he] at hgj
        have hf := hown.frozenAt j
        have hst := hown.stored j (.int .i64 (m : Int))
        have hs1 := hst.1
        rw [vals_set, Hy.out] at hs1
        have Hs1 := Lib.hid hs1
        have Hg1 := Lib.hid (grown_trans hgr (grown_set wr g j (.int .i64 (m : Int))))
        clear hst hs1 hown hgr hlm
        go_wp2
        go_roundw
        case rel => exact ⟨j + 1, by omega, by go_num, Hs1.out, Hg1.out⟩
        case measure => simp [intOf]; omega
      · have Hno := Lib.hid (mixR_no r M m j (by rw [Hlen.out]; exact hjk) he)
        have hne : (((r.getD j 0 : Nat) : Int) == (M : Int)) = false := by rw [beq_eq_false_iff_ne]; omega
        have Hown := Lib.hid hown
        have Hgr := Lib.hid hgr
        clear hown hgr hlm he
        generalize r.getD j 0 = z at *
        go_wp2
        go_roundw
        case rel => exact ⟨j + 1, by omega, by go_num, by rw [← Hno.out]; exact Hown.out, Hgr.out⟩
        case measure => simp [intOf]; omega
    · obtain rfl : j = P := by omega
      have Hown := Lib.hid hown
      have Hgr := Lib.hid hgr
      clear hown hgr
      go_wp2
      exact bodyPost_end (results_noneL rfl _ _ _) rfl ⟨rfl, Hown.out, Hgr.out⟩
set_option maxRecDepth 100000 in
set_option maxHeartbeats 8000000 in
theorem implLinkGroups (p : Int) (ls : List Lk) (B : Nat) (v : Value) (w : World) (hr : RdLinks w B v ls) (hB : B ≤ w.heap.size) :
    Calls Try.prog 28 #[.int .i64 p, v] w fun e w' => ∃ u, e = .returned u ∧ w'.ownsRow w.heap.size 3 1 u (grpL p ls).length (vals (grpL p ls)) ∧ Below w.heap.size w w' := by
  obtain ⟨wo, rfl⟩ : ∃ wo : World, wo = w := ⟨_, rfl⟩
  have hso := fun w h hB => implLinksOk p ls B v w h hB
  obtain ⟨lo, lc, rfl, hll, hlm⟩ : ∃ lo lc, v = .slice lo ls.length lc ∧ ls.length ≤ lc ∧ lc ≤ maxLen := by
    obtain ⟨a, c, h1, h2, h3, _⟩ := hr; exact ⟨a, c, h1, h2, h3⟩
  unfold maxLen at hlm
  have Hr := Lib.hid hr
  cases hok : linksOk p ls with
  | false =>
    have Hf : Hid (grpL p ls = []) := by unfold Hid grpL; rw [hok]; rfl
    rw [hok] at hso
    have Hso := Lib.hid hso
    clear hso hok hr
    go_enter Try.func28, Try.ntmps28
    go_wp2_with fail
    refine (Hso.out _ Hr.out hB).mono ?_
    rintro e w' ⟨rfl, hb1⟩
    have Hb1 := Lib.hid hb1; clear hb1
    go_wp2
    go_ret
    exact ⟨_, rfl, by rw [Hf.out]; exact World.ownsRow_nil _ _ _ _, Hb1.out⟩
  | true =>
    obtain ⟨hmem, h1, h4, h6⟩ := linksOk_iff.1 hok
    have hin := inL_of hok
    obtain ⟨P, rfl⟩ := Int.eq_ofNat_of_zero_le (show 0 ≤ p by omega)
    rw [Int.toNat_natCast] at hin
    have Hf : Hid (grpL (P : Int) ls = grpF P ls) := by unfold Hid grpL; rw [hok]; rfl
    have Hmem := Lib.hid hmem
    have Hlen : Hid ((grpF P ls).length = P) := (grp_inv hin).1
    have Hstart : Hid (grpF P (ls.take 0) = List.range P) := by unfold Hid grpF; rw [List.take_zero]; rfl
    have Hend : Hid (ls.take ls.length = ls) := List.take_length
    have Hstep := Lib.hid (fun k hk => grp_take P ls k hk)
    have Hlk : Hid (∀ k, (grpF P (ls.take k)).length = P ∧ ∀ j, (grpF P (ls.take k)).getD j 0 ≤ j) := fun k => by
      have hk : inL P (ls.take k) := fun l hl => hin l (List.mem_of_mem_take hl)
      exact ⟨(grp_inv hk).1, grp_small hk⟩
    rw [hok] at hso
    have Hso := Lib.hid hso
    have hP4 : P ≤ 4 := by omega
    have Hmk := Lib.hid (run_make_row' (P := Try.prog) 39 3 (.int .i64 0) 8 Try.underlying39 Try.info3 rfl .i64 .i64 P (by omega) (by omega))
    clear hso hok hr hin hmem h1 h4
    go_enter Try.func28, Try.ntmps28
    go_wp2_with fail
    refine (Hso.out _ Hr.out hB).mono ?_
    rintro e w1 ⟨rfl, hb1⟩
    have Hb1 := Lib.hid hb1; clear hb1
    have hmk := Hmk.out
    go_upto_region 4 with fail
    obtain ⟨w4, hw4⟩ : ∃ w4 : World, w4 = w1.alloc (.cells (madeCells #[.int .i64 0] P) 3) := ⟨_, rfl⟩
    have hrow := World.rowIs_made w1 (.int .i64 0) P 3
    have hb4 : Below wo.heap.size wo w4 := by rw [hw4]; exact Hb1.out.alloc Hb1.out.size _
    have hg1 := Hb1.out.size
    have hg4 : w1.heap.size < w4.heap.size := by rw [hw4]; simp
    rw [← hw4] at hrow
    rw [← hw4]
    clear hmk Hmk hw4 Hb1 Hso
    have Hrow := Lib.hid hrow
    have Hb4 := Lib.hid hb4
    clear hrow hb4
    generalize w1.heap.size = g at *
    go_wp2
    go_loopw [6, 17] (fun _ i wr => ∃ k : Nat, k ≤ P ∧ i = .int .i64 k ∧ wr.rowIs g 3 P (fun q => if q < k then .int .i64 (q : Int) else .int .i64 0) ∧ Below wo.heap.size wo wr ∧ g < wr.heap.size) (fun _ i _ => P - (intOf i).toNat)
    case atStart => exact ⟨0, Nat.zero_le _, rfl, Hrow.out.congr fun q _ => by simp, Hb4.out, hg4⟩
    case round =>
      clear Hrow Hb4 hg4
      obtain ⟨k, hk, rfl, hrow, hbr, hgr⟩ := hrel
      have Hrow1 := Lib.hid hrow
      have Hbr := Lib.hid hbr
      by_cases hlt : k < P
      · have hrc := hrow.cell hlt
        have hrf := hrow.frozen k
        rw [if_neg (Nat.lt_irrefl k)] at hrc
        clear hrow hbr
        go_wp2
        go_roundw
        case rel => exact ⟨k + 1, by omega, by go_num, row_nextL (f := fun q => (q : Int)) Hrow1.out rfl, Hbr.out.setCell hg1 _, by simpa using hgr⟩
        case measure => simp [intOf]; omega
      · obtain rfl : k = P := by omega
        have Hown : Hid (wr.ownsRow wo.heap.size 3 1 (.slice (some ⟨g, 0, none⟩) k k) k (vals (grpF k (ls.take 0)))) := by
          unfold Hid
          rw [Hstart.out]
          exact own_of_rowIsL (Hrow1.out.congr (g := fun q => .int .i64 (q : Int)) fun q hq => if_pos hq) hg1 (by unfold maxLen; omega) (by simp [vals]) (fun q hq => by simp [vals, hq])
        clear hrow hbr Hrow1
        go_wp2
        go_loopw [8, 27] (fun _ i ws => ∃ y : Nat, y ≤ ls.length ∧ i = .int .i64 y ∧ ws.ownsRow wo.heap.size 3 1 (.slice (some ⟨g, 0, none⟩) k k) k (vals (grpF k (ls.take y))) ∧ Below wo.heap.size wo ws ∧ g < ws.heap.size) (fun _ i _ => ls.length - (intOf i).toNat)
        case atStart => exact ⟨0, Nat.zero_le _, rfl, Hown.out, Hbr.out, hgr⟩
        case round =>
          clear Hown Hbr hgr
          obtain ⟨y, hy, rfl, hown, hbel, hgr⟩ := hrel
          by_cases hyl : y < ls.length
          · have Hrs := Lib.hid (Hr.out.below (w' := wr) (fun q hq => hbel.block q (by omega)))
            obtain ⟨ao', cap', hv', _, _, _, hc0⟩ := Hrs.out
            obtain ⟨b, off, hao, hb, hc1, hc2, hc3⟩ := hc0 y hyl
            injection hv' with hv1 hv2 hv3
            subst hv1 hv3
            subst hao
            have hst := Hstep.out y hyl
            have hm := Hmem.out (ls.getD y lk0) (by rw [show ls.getD y lk0 = ls[y] by simp [List.getD, hyl]]; exact List.getElem_mem hyl)
            obtain ⟨hlen, hsm⟩ := Hlk.out y
            clear hc0 hv2
            generalize ls.getD y lk0 = l at *
            obtain ⟨la, lb, lt⟩ := l
            dsimp only at hc1 hc2 hc3 hst hm
            obtain ⟨a, rfl⟩ := Int.eq_ofNat_of_zero_le hm.1
            obtain ⟨c, rfl⟩ := Int.eq_ofNat_of_zero_le hm.2.2.1
            rw [Int.toNat_natCast, Int.toNat_natCast] at hst
            have hak : a < k := by omega
            have hck : c < k := by omega
            generalize grpF k (ls.take y) = r at *
            obtain ⟨w5, hw5, ⟨x1, x2, x3⟩, hb5, hs5⟩ := link_laid wr (.int .i64 (a : Int)) (.int .i64 (c : Int)) (.bool lt) 48
            have hown5 := own_below hown hb5
            have hga := hown5.cellAt a (by omega)
            rw [vals_at r a (by omega)] at hga
            have hgc := hown5.cellAt c (by omega)
            rw [vals_at r c (by omega)] at hgc
            have hra := hsm a
            have hrc := hsm c
            have Hall := Lib.hid (mixR_all r a c)
            rw [hlen] at Hall
            have Hst := Lib.hid hst
            have Hmg := Lib.hid (fun w h => implMergeGroups wo.heap.size g k k (r.getD a 0) (r.getD c 0) r hlen hP4 (by omega) (by omega) w h)
            have Hown5 := Lib.hid hown5
            have Hb5 := Lib.hid (hbel.trans (hb5.mono hbel.size))
            have hg5 : g < w5.heap.size := by omega
            clear hst hsm hown hbel hm hown5 hb5 hs5 hlen
            generalize r.getD a 0 = A at *
            generalize r.getD c 0 = C at *
            go_upto_region 12 with fail
            rw [← hw5]
            clear hw5 hc1 hc2 hc3
            go_region_law
              (first
                | (go_simp
                   go_at_call 57
                   refine (Hmg.out _ (by first | exact Hown5.out | exact own_drewU Hown5.out _)).mono ?_
                   rintro e w6 ⟨rfl, hown6, hgr6'⟩
                   have hgr6 : w5.grownBy w6 (some g) := by first | exact hgr6' | exact grownBy_drew0 hgr6' | exact grownBy_drewX hgr6'
                   go_must (have hs6 := hgr6.size
                            have Hb6 := Lib.hid (below_grownL Hb5.out hgr6 (by have := Hb5.out.size; omega) (fun q hq => by cases hq; omega))
                            rw [Hall.out, ← Hst.out] at hown6
                            have Hown6 := Lib.hid hown6
                            have hg6 : g < w6.heap.size := by omega
                            clear hown6 hgr6 hgr6' hs6))
                | fail)
            all_goals
              go_wp2
              go_roundw
              case rel => exact ⟨y + 1, by omega, by go_num, Hown6.out, Hb6.out, hg6⟩
              case measure => simp [intOf]; omega
          · obtain rfl : y = ls.length := by omega
            have Hown := Lib.hid hown
            have Hbel := Lib.hid hbel
            clear hown hbel
            go_wp2
            go_ret
            refine ⟨_, rfl, ?_, Hbel.out⟩
            have h := Hown.out
            rw [Hend.out] at h
            rw [Hf.out, Hlen.out]
            exact h
set_option maxRecDepth 100000 in
set_option maxHeartbeats 4000000 in
theorem implLinkWorlds (p : Int) (ls : List Lk) (B : Nat) (v : Value) (w : World) (hr : RdLinks w B v ls) (hB : B ≤ w.heap.size) :
    Calls Try.prog 32 #[.int .i64 p, v] w fun e w' => e = .returned (.int .i64 (lwV p ls)) ∧ Below w.heap.size w w' := by
  have hs := fun w h hB => implLinkStory p ls B v w h hB
  unfold StoryOut at hs
  cases hok : linksOk p ls with
  | false =>
    have Hf : Hid (lwV p ls = -1) := by unfold Hid lwV; rw [hok]; rfl
    rw [hok] at hs
    have Hs := Lib.hid hs
    clear hs hok
    go_enter Try.func32, Try.ntmps32
    go_wp2_with fail
    refine (Hs.out _ hr hB).mono ?_
    rintro e w2 ⟨v2, us, rfl, _, _, _, hb2⟩
    have Hb2 := Lib.hid hb2; clear hb2
    go_wp2
    go_ret
    exact ⟨by rw [Hf.out]; rfl, Hb2.out⟩
  | true =>
    have Hf : Hid (lwV p ls = (heads (storyN p (linkS p ls)) : Int)) := by unfold Hid lwV; rw [hok]; rfl
    obtain ⟨hcn, hc16⟩ := link_count hok
    rw [hok] at hs
    have Hs := Lib.hid hs
    have Hcn := Lib.hid hcn
    clear hs hok hcn
    go_enter Try.func32, Try.ntmps32
    go_wp2_with fail
    refine (Hs.out _ hr hB).mono ?_
    rintro e w2 ⟨v2, us, rfl, hus, hst, _, hb2⟩
    obtain ⟨so, sc, rfl⟩ := own_len hst.1
    have Hst := Lib.hid (implStoryTable p us w2.heap.size _ w2 hst.rd (Nat.le_refl _))
    rw [hus] at Hst
    have Hb2 := Lib.hid hb2
    clear hb2 hst hus
    generalize storyV p (linkS p ls) = T at *
    go_wp2_with fail
    refine Hst.out.mono ?_
    rintro e w3 ⟨rfl, hb3⟩
    have Hb3 := Lib.hid (Hb2.out.trans (hb3.mono Hb2.out.size)); clear hb3
    have Hwi := Lib.hid (fun w => implWorldsIn p T w)
    go_wp2_with fail
    refine (Hwi.out _).mono ?_
    rintro e w4 ⟨v4, rfl, hown, hb4⟩
    obtain ⟨fo, fc, rfl⟩ := own_len hown
    have Hb4 := Lib.hid (Hb3.out.trans (hb4.mono Hb3.out.size)); clear hb4 hown
    generalize (wlp p T).length = n at *
    go_wp2
    go_ret
    exact ⟨by rw [Hf.out, ← Hcn.out]; rfl, Hb4.out⟩
end Go.Proofs.Ythiabicleedleaa

/- Contract of the program's chains of questions: a loop over slices.Backward, walked inside a fence. -/
import Derived.Test.YtbcmepcjhobemaaAskH
import Derived.Test.YtbcmepcjhobemaaBack
import Derived.Test.YtbcmepcjhobemaaClone
namespace Go.Proofs.Ytbcmepcjhobemaa
open Go.RowKit Go.Joins Go.Shelf
attribute [local go_sem] Oper.semAt_some
theorem suffix_no {p : Int} {zs : List Int} {ms : List (Int × Int)} {k : Nat} (h : termOk p ms = true) (hn : termOk p (chainL (zs.drop k) ms) = false) : chainOk p zs ms = false ∧ chainV p zs ms = [] := by
  have e : termOk p (chainL zs ms) = false := by
    cases ht : termOk p (chainL zs ms) with
    | false => rfl
    | true =>
      obtain ⟨h1, h2⟩ := (chain_ok h).1 ht
      have := (chain_ok (l := zs.drop k) h).2 ⟨fun j hj => h1 j (List.mem_of_mem_drop hj), by rw [List.length_drop]; omega⟩
      rw [this] at hn; cases hn
  obtain ⟨e1, e2⟩ := chain_yes (l := zs) h
  rw [e] at e1 e2
  exact ⟨e1, e2⟩
theorem all_yes {p : Int} {zs : List Int} {ms : List (Int × Int)} (h : termOk p ms = true) (ht : termOk p (chainL zs ms) = true) : chainOk p zs ms = true ∧ chainV p zs ms = chainL zs ms := by
  obtain ⟨e1, e2⟩ := chain_yes (l := zs) h
  rw [ht] at e1 e2
  exact ⟨e1, e2⟩
theorem chain_nil (ms : List (Int × Int)) : chainL [] ms = ms := rfl
theorem chain_cons (k : Int) (r : List Int) (ms : List (Int × Int)) : chainL (k :: r) ms = ctermL (k, chainL r ms) := rfl
theorem revs_I64 (pre : List B64) : ∀ z ∈ revs pre, I64 z := by
  intro z hz
  unfold revs at hz
  rw [List.mem_reverse, List.mem_map] at hz
  obtain ⟨x, _, rfl⟩ := hz
  exact x.2
attribute [local irreducible] holds tabN tabV holdsV sameV followsV alwaysV matterV claimOk mayT mayV ctabV ctabN storyV storyOk storyN storyT ctermV ctermL ansN inOk chainL chainOk chainV alikeV liesN mcells
/-- the three variables of the chain's function, laid in boxes -/
theorem chain_boxes (w : World) (p : Int) : ∃ w1 : World, w1 = ((w.alloc (.cells #[.int .i64 p] 3)).alloc (.cells #[.slice none 0 0] TS)).alloc (.cells #[.bool false] 4) ∧ Below w.heap.size w w1 ∧ w1.heap.size = w.heap.size + 3 ∧
    Boxed w1 w.heap.size 3 (.int .i64 p) ∧ Boxed w1 (w.heap.size + 1) TS (.slice none 0 0) ∧ Boxed w1 (w.heap.size + 1 + 1) 4 (.bool false) := by
  refine ⟨_, rfl, ?_, by simp, ?_, ?_, ?_⟩
  · exact (((Below.refl _ _).alloc (Nat.le_refl _) _).alloc (by simp) _).alloc (by simp; omega) _
  · exact ((Boxed.new w _ _).alloc _).alloc _
  · have h := Boxed.new (w.alloc (.cells #[.int .i64 p] 3)) TS (.slice none 0 0)
    rw [World.size_alloc] at h
    exact h.alloc _
  · have h := Boxed.new ((w.alloc (.cells #[.int .i64 p] 3)).alloc (.cells #[.slice none 0 0] TS)) 4 (.bool false)
    rw [World.size_alloc, World.size_alloc] at h
    exact h
theorem boxed_below {w w' : World} {b : Nat} {t : TypeId} {v : Value} (h : Boxed w b t v) (hb : Below w.heap.size w w') : Boxed w' b t v := (hb.block b h.lt).trans h
theorem boxes_kept {w1 w2 : World} {s : Nat} {t1 t2 t3 : TypeId} {v1 v2 v3 : Value} (hb : Below w1.heap.size w1 w2) (_ : w1.heap.size = s + 3) (h1 : Boxed w1 s t1 v1) (h2 : Boxed w1 (s + 1) t2 v2) (h3 : Boxed w1 (s + 1 + 1) t3 v3) : Boxed w2 s t1 v1 ∧ Boxed w2 (s + 1) t2 v2 ∧ Boxed w2 (s + 1 + 1) t3 v3 :=
  ⟨boxed_below h1 hb, boxed_below h2 hb, boxed_below h3 hb⟩
theorem boxes_set {w : World} {s : Nat} {t2 t3 : TypeId} {v2 v3 : Value} (h2 : Boxed w (s + 1) t2 v2) (h3 : Boxed w (s + 1 + 1) t3 v3) (a b : Value) :
    Boxed ((w.setCell ⟨s + 1, 0, none⟩ a).setCell ⟨s + 1 + 1, 0, none⟩ b) (s + 1) t2 a ∧ Boxed ((w.setCell ⟨s + 1, 0, none⟩ a).setCell ⟨s + 1 + 1, 0, none⟩ b) (s + 1 + 1) t3 b ∧ Below s w ((w.setCell ⟨s + 1, 0, none⟩ a).setCell ⟨s + 1 + 1, 0, none⟩ b) :=
  ⟨(h2.set a).other (by omega) b, (h3.other (by omega) a).set b, ((Below.refl s w).setCell (p := ⟨s + 1, 0, none⟩) (by show s ≤ s + 1; omega) a).setCell (p := ⟨s + 1 + 1, 0, none⟩) (by show s ≤ s + 1 + 1; omega) b⟩
theorem row_kept1 {w : World} {b base e size n : Nat} {t : TypeId} {u v : Value} {xs : List Value} (h : Boxed w b t u) (hte : t ≠ e) (hr : w.ownsRow base e size v n xs) (a : Value) : (w.setCell ⟨b, 0, none⟩ a).ownsRow base e size v n xs :=
  hr.kept (grownBy_setCell' w b a) (.inr (h.not_row hte hr).symm)
theorem row_kept2 {w : World} {s base e size n : Nat} {t2 t3 : TypeId} {v v2 v3 : Value} {xs : List Value} (h2 : Boxed w (s + 1) t2 v2) (h3 : Boxed w (s + 1 + 1) t3 v3) (he2 : t2 ≠ e) (he3 : t3 ≠ e) (hr : w.ownsRow base e size v n xs) (a b : Value) :
    ((w.setCell ⟨s + 1, 0, none⟩ a).setCell ⟨s + 1 + 1, 0, none⟩ b).ownsRow base e size v n xs :=
  row_kept1 (h3.other (by omega) a) he3 (row_kept1 h2 he2 hr a) b
theorem keepB_set {n₀ Bs q : Nat} {W W4 : World} (hb : Below W.heap.size W W4) (hn : n₀ ≤ q) (hq : q < W.heap.size) (hne : Bs ≠ q) (hBs : Bs < W.heap.size) (v : Value) : KeepB n₀ Bs W (W4.setCell ⟨q, 0, none⟩ v) := fun k hk => by
  have hs := hb.size
  have h1 : k < W.heap.size := by rcases hk with h | h <;> omega
  have h2 : k ≠ q := by rcases hk with h | h <;> omega
  exact ((grownBy_setCell' W4 q v).block k (by omega) (fun e => h2 (by cases e; rfl))).trans (hb.block k h1)
set_option maxRecDepth 100000 in
set_option maxHeartbeats 4000000 in
theorem implChainTerm (p : Int) (zs : List Int) (ms : List (Int × Int)) (hz : ∀ z ∈ zs, I64 z) (_hzl : zs.length ≤ 2000000) (hlen : ms.length ≤ 2000000) (B : Nat) (a u : Value) (w : World) (ha : RdInts w B a zs) (hr : RdMarks w B u ms) (hB : B ≤ w.heap.size) :
    Calls Try.prog 44 #[.int .i64 p, a, u] w (RowOk (chainV p zs ms) (chainOk p zs ms) w) := by
  refine (callsIn_wide (n := 6)).1 ?_
  have Hso := Lib.hid (fun w h hB => implTermOk p ms B u w h hB)
  cases ht : termOk p ms with
  | false =>
    obtain ⟨e1, e2⟩ := chain_no_term (l := zs) ht
    rw [e1, e2]
    rw [ht] at Hso
    have Hr := Lib.hid hr
    clear e1 e2 ht ha hr hz
    refine callsIn_of_wp_marks Try.func44 rfl trivial ?_ rfl
    simp only [Try.ntmps44, List.size_toArray, List.length_cons, List.length_nil, Nat.reduceAdd, Nat.reduceSub, Array.replicate_succ, Array.replicate_zero, List.push_toArray, List.append_toArray, List.nil_append, List.cons_append]
    gi_wp2_with fail
    obtain ⟨w1, hw1, hb1, hs1, x1, x2, x3⟩ := chain_boxes w p
    rw [← hw1]
    have Hr1 := Lib.hid (Hr.out.below (w' := w1) (fun q hq => hb1.block q (by omega)))
    have hB1 : B ≤ w1.heap.size := by omega
    clear hw1
    refine ⟨trivial, ?_⟩
    refine (callsIn_wide.2 (Hso.out _ Hr1.out hB1)).mono ?_
    rintro e w2 ⟨rfl, hb2⟩
    obtain ⟨y1, y2, y3⟩ := boxes_kept hb2 hs1 x1 x2 x3
    have Hb2 := Lib.hid (hb1.trans (hb2.mono (by omega)))
    have q2 := y2.cell
    have f2 := y2.frozen
    have q3 := y3.cell
    have f3 := y3.frozen
    clear hb2 hb1 x1 x2 x3 y1
    gi_wp2
    obtain ⟨z2, z3, hb3⟩ := boxes_set y2 y3 (.slice none 0 0) (.bool false)
    have c2 := z2.cell
    have c3 := z3.cell
    refine ⟨.tuple #[.slice none 0 0, .bool false], ?_, ?_⟩
    · simp [results, Try.f44, go_sem, c2, c3]
    · exact ⟨_, rfl, by rw [mcells_nil7]; exact World.ownsRow_nil _ _ _ _, Hb2.out.trans hb3⟩
  | true =>
    obtain ⟨lo, lc, rfl⟩ : ∃ lo lc, a = .slice lo zs.length lc := by obtain ⟨b, c, h, _⟩ := ha; exact ⟨b, c, h⟩
    have hms15 : ms.length ≤ 15 := (termOk_iff.1 ht).2.1
    have hi : I64s ms := by obtain ⟨_, _, _, _, _, h, _⟩ := hr; exact h
    have Hno := Lib.hid (fun k h => suffix_no (p := p) (zs := zs) (ms := ms) (k := k) ht h)
    have Hyes := Lib.hid (fun h => all_yes (p := p) (zs := zs) (ms := ms) ht h)
    have Htrick := Lib.hid (fun k (cs : List (Int × Int)) (h : termOk p cs = true) => trick_ok (k := k) h)
    have Hci := Lib.hid (fun (l : List Int) (h : ∀ z ∈ l, I64 z) => chain_I64 hi l h)
    have hcn : chainL [] ms = ms := chain_nil ms
    have Hc0 : Hid (termOk p (chainL [] ms) = true) := by unfold Hid; rw [hcn]; exact ht
    have Hcn := Lib.hid hcn; clear hcn
    have Hcons := Lib.hid (fun k r => chain_cons k r ms)
    have Hz : Hid (∀ j, j < zs.length → I64 (zs.getD j 0)) := fun j hj => by
      rw [show zs.getD j 0 = zs[j] by simp [List.getD, hj]]
      exact hz _ (List.getElem_mem hj)
    have Hcl := Lib.hid (fun b u w h hb => implClone ms b u w h hb (by omega))
    have Htr := Lib.hid (fun k (cs : List (Int × Int)) (hk : I64 k) (hl : cs.length ≤ 15) b u w h hb => implTrickTerm p k cs hk (by omega) b u w h hb)
    rw [ht] at Hso
    have Hr := Lib.hid hr
    have Ha := Lib.hid ha
    clear ht ha hr hz hms15 hi
    obtain ⟨mo, mc, rfl⟩ : ∃ mo mc, u = .slice mo ms.length mc := by obtain ⟨b, c, h, _⟩ := Hr.out; exact ⟨b, c, h⟩
    refine callsIn_of_wp_marks Try.func44 rfl trivial ?_ rfl
    simp only [Try.ntmps44, List.size_toArray, List.length_cons, List.length_nil, Nat.reduceAdd, Nat.reduceSub, Array.replicate_succ, Array.replicate_zero, List.push_toArray, List.append_toArray, List.nil_append, List.cons_append]
    gi_wp2_with fail
    obtain ⟨w1, hw1, hb1, hs1, x1, x2, x3⟩ := chain_boxes w p
    rw [← hw1]
    have Hr1 := Lib.hid (Hr.out.below (w' := w1) (fun q hq => hb1.block q (by omega)))
    have hB1 : B ≤ w1.heap.size := by omega
    clear hw1
    refine ⟨trivial, ?_⟩
    refine (callsIn_wide.2 (Hso.out _ Hr1.out hB1)).mono ?_
    rintro e w2 ⟨rfl, hb2⟩
    obtain ⟨y1, y2, y3⟩ := boxes_kept hb2 hs1 x1 x2 x3
    have hs2 := hb2.size
    have Hr2 := Lib.hid (Hr1.out.below (w' := w2) (fun q hq => hb2.block q (by omega)))
    have hB2 : B ≤ w2.heap.size := by omega
    have hb12 := hb1.trans (hb2.mono (by omega))
    have Hb2 := Lib.hid hb12
    clear hb2 hb1 x1 x2 x3 hb12
    gi_wp2_with fail
    refine ⟨trivial, ?_⟩
    refine (callsIn_wide.2 (Hcl.out _ _ _ Hr2.out hB2)).mono ?_
    rintro e w3 ⟨v3, rfl, ho3, hb3⟩
    obtain ⟨f3, g3, rfl⟩ := own_len ho3
    obtain ⟨u1, u2, u3⟩ : Boxed w3 w.heap.size 3 (.int .i64 p) ∧ Boxed w3 (w.heap.size + 1) TS (.slice none 0 0) ∧ Boxed w3 (w.heap.size + 1 + 1) 4 (.bool false) := ⟨boxed_below y1 hb3, boxed_below y2 hb3, boxed_below y3 hb3⟩
    have hs3 := hb3.size
    have Ho3 := Lib.hid (own_mono ho3 (show w.heap.size ≤ w2.heap.size by omega))
    have Hb3 := Lib.hid (Hb2.out.trans (hb3.mono (by omega)))
    clear hb3 ho3 y1 y2 y3
    gi_wp2_with fail
    refine ⟨trivial, ?_⟩
    refine (back_in Fence.wide _ trivial rfl _ _ _ _).mono ?_
    rintro e w5 ⟨rfl, hw5⟩
    obtain ⟨q, hq⟩ : ∃ q, q = w3.heap.size := ⟨_, rfl⟩
    have hz4 : (w3.alloc (.cells #[.slice f3 ms.length g3] TS)).heap.size = q + 1 := by rw [hq]; simp
    have hs5 : w5.heap.size = q + 2 := by rw [hw5, hq]; simp
    have bq : Boxed w5 q TS (.slice f3 ms.length g3) := by
      have h := (Boxed.new w3 TS (.slice f3 ms.length g3)).alloc (.cells #[.slice lo zs.length lc] 53)
      rw [← hw5, ← hq] at h
      exact h
    have bl : Boxed w5 (q + 1) 53 (.slice lo zs.length lc) := by
      have h := Boxed.new (w3.alloc (.cells #[.slice f3 ms.length g3] TS)) 53 (.slice lo zs.length lc)
      rw [hz4, ← hw5] at h
      exact h
    have hb5 : Below w3.heap.size w3 w5 := by rw [hw5]; exact ((Below.refl _ _).alloc (Nat.le_refl _) _).alloc (by simp) _
    obtain ⟨t1, t2, t3⟩ : Boxed w5 w.heap.size 3 (.int .i64 p) ∧ Boxed w5 (w.heap.size + 1) TS (.slice none 0 0) ∧ Boxed w5 (w.heap.size + 1 + 1) 4 (.bool false) := ⟨boxed_below u1 hb5, boxed_below u2 hb5, boxed_below u3 hb5⟩
    have Ho5 := Lib.hid (own_below Ho3.out hb5)
    have hsq : w.heap.size + 3 ≤ q := by omega
    have hb05 := Hb3.out.trans (hb5.mono (by omega))
    have Ha5 := Lib.hid (Ha.out.below (w' := w5) (fun k hk => hb05.block k (by omega)))
    rw [hz4, ← hq]
    clear hw5 hb5 u1 u2 u3 hz4 Hb3 Ho3 hs3 hq Ha Hr1 Hr2 Hr
    gi_wp2_with fail
    refine wpIn_rangeFunc_ownF rfl (by omega) (gf := 63) (lb := #[.pointer (some ⟨q + 1, 0, none⟩)]) rfl trivial (enters_of Try.func63 (by kernel_rfl) rfl)
      (back_stops Fence.wide _ trivial rfl (by omega) (q + 1) w.heap.size B _ zs Hz hB w5 (by omega) (by omega) bl.cell Ha5.out) KeepB.trans (keepB_put (by omega) (by omega)) (Below.refl _ _) (fun _ => rfl)
      (fun pre W => Boxed W w.heap.size 3 (.int .i64 p) ∧ Boxed W (w.heap.size + 1) TS (.slice none 0 0) ∧ Boxed W (w.heap.size + 1 + 1) 4 (.bool false) ∧
        (∃ v, Boxed W q TS v ∧ W.ownsRow w.heap.size TM 2 v (chainL (revs pre) ms).length (mcells (chainL (revs pre) ms)) ∧ termOk p (chainL (revs pre) ms) = true) ∧ w5.heap.size ≤ W.heap.size ∧ Below w.heap.size w W)
      (fun c pre W => (c = .ret ∧ termOk p (chainL (revs pre) ms) = false) ∧ Boxed W (w.heap.size + 1) TS (.slice none 0 0) ∧ Boxed W (w.heap.size + 1 + 1) 4 (.bool false) ∧ Below w.heap.size w W)
      (OwnFrom.and (Own.from (boxed_own _ _ (fun _ => _)) _) (OwnFrom.and (Own.from (boxed_own _ _ (fun _ => _)) _) (OwnFrom.and (Own.from (boxed_own _ _ (fun _ => _)) _)
        (OwnFrom.and (Own.from (holdsRow_own w.heap.size q TS TM 2 (fun pre => (chainL (revs pre) ms).length) (fun pre => mcells (chainL (revs pre) ms)) (fun pre _ => termOk p (chainL (revs pre) ms) = true)) _)
          (OwnFrom.and (fun _ _ _ _ hs hg _ => Nat.le_trans hs hg.size) (ownFrom_below (Nat.le_refl _) (by omega)))))))
      (fun c => OwnFrom.and (ownFrom_pure _ _) (OwnFrom.and (Own.from (boxed_own _ _ (fun _ => _)) _) (OwnFrom.and (Own.from (boxed_own _ _ (fun _ => _)) _) (ownFrom_below (Nat.le_refl _) (by omega)))))
      ⟨t1, t2, t3, ⟨_, bq, by rw [show revs [] = [] from rfl, Hcn.out]; exact Ho5.out, Hc0.out⟩, Nat.le_refl _, hb05⟩
      (fun x => { tmps := #[.int .i64 p, .slice lo zs.length lc, .slice mo ms.length mc, .pointer (some ⟨w.heap.size, 0, none⟩), undef, undef, .pointer (some ⟨w.heap.size + 1, 0, none⟩), .pointer (some ⟨w.heap.size + 1 + 1, 0, none⟩), .pointer (some ⟨q, 0, none⟩), undef, .int .i64 x.1.2, undef, undef, .int .i64 p, .slice mo ms.length mc, .bool true, .bool false, .slice mo ms.length mc, .slice f3 ms.length g3, .slice lo zs.length lc, .func (.func 63) #[] #[.pointer (some ⟨q + 1, 0, none⟩)], .int .i64 x.1.1, .int .i64 x.1.2, undef, undef, undef, undef, undef, undef, undef, undef, undef, undef, undef], defers := [] }) ?assign ?body ?done ?stop
    case assign =>
      intro l x W K hK
      gi_wp2
      exact hK
    case body =>
      rintro l pre x W ⟨b1, b2, b3, ⟨v, bq, hrow, hterm⟩, hsz, hB'⟩ hlt
      have Htk := Lib.hid (Htrick.out x.1.2 _ hterm)
      have hl15 := (termOk_iff.1 hterm).2.1
      have Hrw := Lib.hid (RdMarks.of_own hrow (Hci.out _ (revs_I64 pre)))
      have Hsn : Hid (chainL (revs (pre ++ [x])) ms = ctermL (x.1.2, chainL (revs pre) ms)) := by unfold Hid; rw [revs_snoc, Hcons.out]
      have hx := x.2
      clear hrow hterm
      generalize chainL (revs pre) ms = cs at *
      obtain ⟨fv, gv, rfl⟩ : ∃ fv gv, v = .slice fv cs.length gv := by obtain ⟨b, c, h, _⟩ := Hrw.out; exact ⟨b, c, h⟩
      have k1 := b1.cell
      have kq := bq.cell
      have Hcall := Lib.hid (Htr.out x.1.2 cs hx hl15 W.heap.size (.slice fv cs.length gv) W Hrw.out (Nat.le_refl _))
      gi_wp2_with fail
      refine ⟨trivial, ?_⟩
      refine (CallsIn.inRound l (callsIn_wide.2 Hcall.out)).mono ?_
      rintro e W4 ⟨v', rfl, ho', hb'⟩
      obtain ⟨fo, go, rfl⟩ := own_len ho'
      have hko : KeepsOthers W W4 := ⟨hb'.size, fun k o hk _ => (hb'.block k (Array.getElem?_eq_some_iff.1 hk).1).trans hk⟩
      obtain ⟨d1, d2, d3, dq⟩ : Boxed W4 w.heap.size 3 (.int .i64 p) ∧ Boxed W4 (w.heap.size + 1) TS (.slice none 0 0) ∧ Boxed W4 (w.heap.size + 1 + 1) 4 (.bool false) ∧ Boxed W4 q TS (.slice fv cs.length gv) := ⟨boxed_below b1 hb', boxed_below b2 hb', boxed_below b3 hb', boxed_below bq hb'⟩
      have hs4 := hb'.size
      have hB4 := hB'.trans (hb'.mono (show w.heap.size ≤ W.heap.size by omega))
      cases hco : claimOk p (x.1.2, cs) with
      | true =>
        rw [hco] at Htk
        have Hrow := Lib.hid (own_mono ho' (show w.heap.size ≤ W.heap.size by omega))
        have hcv := trick_yes hco
        rw [hcv] at Hrow ⊢
        have Hbl := Lib.hid hb'
        have Hb4 := Lib.hid hB4
        have hcq := dq.cell
        have hfq := dq.frozen
        clear ho' hb' hB4 hB' hco hcv
        generalize ctermL (x.1.2, cs) = L at *
        gi_wp2
        have hlq := bq.lt
        refine ⟨hko.trans (KeepsOthers.setCell _ _ _), keepB_set Hbl.out (by omega) hlq (by omega) (by omega) _, d1.other (by omega) _, d2.other (by omega) _, d3.other (by omega) _, ⟨_, dq.set _, ?_, by rw [Hsn.out]; exact Htk.out⟩, by simp; omega, Hb4.out.setCell (p := ⟨q, 0, none⟩) (by show w.heap.size ≤ q; omega) _⟩
        rw [Hsn.out]
        exact row_kept1 dq (by decide) Hrow.out _
      | false =>
        rw [hco] at Htk
        have Hbl := Lib.hid hb'
        have Hb4 := Lib.hid hB4
        have q2 := d2.cell
        have f2 := d2.frozen
        have q3 := d3.cell
        have f3' := d3.frozen
        clear ho' hb' hB4 hB' hco
        generalize (ctermV p (x.1.2, cs)).length = L at *
        gi_wp2
        obtain ⟨z2, z3, hb5⟩ := boxes_set d2 d3 (.slice none 0 0) (.bool false)
        exact ⟨(hko.trans (KeepsOthers.setCell _ _ _)).trans (KeepsOthers.setCell _ _ _), ⟨rfl, by rw [Hsn.out]; exact Htk.out⟩, z2, z3, Hb4.out.trans hb5⟩
    case done =>
      rintro D ys W hD hys ⟨b1, b2, b3, ⟨v, bq, hrow, hterm⟩, hsz, hB'⟩ hK
      rw [hys] at hrow hterm
      obtain ⟨e1, e2⟩ := Hyes.out hterm
      have E1 := Lib.hid e1
      have E2 := Lib.hid e2
      have Hrow := Lib.hid hrow
      have Hb' := Lib.hid hB'
      have kq := bq.cell
      have q2 := b2.cell
      have f2 := b2.frozen
      have q3 := b3.cell
      have f3' := b3.frozen
      clear hrow hterm hB' e1 e2
      generalize chainL zs ms = cs at *
      obtain ⟨fv, gv, rfl⟩ := own_len Hrow.out
      gi_wp2
      obtain ⟨z2, z3, hb5⟩ := boxes_set b2 b3 (.slice fv cs.length gv) (.bool true)
      have hK1 := (KeepsOthers.setCell W ⟨w.heap.size + 1, 0, none⟩ (.slice fv cs.length gv)).same D _ hK rfl
      have hK2 := (KeepsOthers.setCell (W.setCell ⟨w.heap.size + 1, 0, none⟩ (.slice fv cs.length gv)) ⟨w.heap.size + 1 + 1, 0, none⟩ (.bool true)).same D _ hK1 rfl
      have hrow2 := row_kept2 b2 b3 (by decide) (by decide) Hrow.out (.slice fv cs.length gv) (.bool true)
      generalize (W.setCell ⟨w.heap.size + 1, 0, none⟩ (.slice fv cs.length gv)).setCell ⟨w.heap.size + 1 + 1, 0, none⟩ (.bool true) = W5 at *
      refine ⟨by simp, .inl ⟨_, _, rfl, run_takeDeferred hK2, ?_⟩⟩
      have c2 := cell_kept z2.cell (grownBy_putObj' _ D (.deferred none)) (fun r e => by cases e; exact ⟨_, hK2, rfl⟩)
      have c3 := cell_kept z3.cell (grownBy_putObj' _ D (.deferred none)) (fun r e => by cases e; exact ⟨_, hK2, rfl⟩)
      refine ⟨.tuple #[.slice fv cs.length gv, .bool true], ?_, ?_⟩
      · simp [results, Try.f44, go_sem, c2, c3]
      · exact ⟨_, by rw [E1.out], by rw [E2.out]; exact ownsRow_putObj hrow2 _ hK2 rfl, (Hb'.out.trans hb5).trans (belowK_b (w := w) (Nat.le_refl _) W5 D _ _ (by omega) hK2 rfl rfl)⟩
    case stop =>
      rintro D c pre W hD ⟨k, hk, hpre⟩ ⟨⟨rfl, hno⟩, b2, b3, hB'⟩ hK
      rw [hpre] at hno
      obtain ⟨e1, e2⟩ := Hno.out k hno
      rw [e1, e2]
      gi_wp2
      have c2 := cell_kept b2.cell (grownBy_putObj' _ D (.deferred none)) (fun r e => by cases e; exact ⟨_, hK, rfl⟩)
      have c3 := cell_kept b3.cell (grownBy_putObj' _ D (.deferred none)) (fun r e => by cases e; exact ⟨_, hK, rfl⟩)
      refine ⟨by simp, .inl ⟨_, _, rfl, run_takeDeferred hK, ?_⟩⟩
      refine ⟨.tuple #[.slice none 0 0, .bool false], ?_, ?_⟩
      · simp [results, Try.f44, go_sem, c2, c3]
      · exact ⟨_, rfl, by rw [mcells_nil7]; exact World.ownsRow_nil _ _ _ _, hB'.trans (belowK_b (w := w) (Nat.le_refl _) W D _ _ (by omega) hK rfl rfl)⟩
end Go.Proofs.Ytbcmepcjhobemaa

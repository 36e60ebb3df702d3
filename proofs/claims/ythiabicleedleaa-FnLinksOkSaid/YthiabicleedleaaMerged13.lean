/- Texts of a proof, merged: Have, ClaimD, Odd, OddC, OddK. -/
import Derived.Test.YthiabicleedleaaMerged6
import Derived.Maps.AppendAt
import Derived.Laws.Rows
import Derived.Deep.AppendLies
import Derived.Test.YthiabicleedleaaClaimI
import Derived.Deep.RegionHeld3
import Derived.Deep.Cut
import Derived.OwnWalk
import Derived.Test.YthiabicleedleaaMerged9
import Derived.Test.YthiabicleedleaaMerged7
import Derived.Deep.RegionWith
/- An append of marks in the midst of a region that draws its order: what lies already, and one step. -/
namespace Go.Proofs.Ythiabicleedleaa
open Go.RowKit Go.Joins
/-- in the midst of a region that draws its order: the row of its own that it grows, and, if they lie already (block 'at'), the marks that it will append last -/
def Have (w0 : World) (at_ : Option Nat) (ns : List Value) (w : World) (v : Value) (n : Nat) (cs : List Value) : Prop :=
  w0.grownBy w none ∧ w.ownsRow w0.heap.size TM 2 v n cs ∧ ∀ b, at_ = some b → w0.heap.size ≤ b ∧ b < w.heap.size ∧ v.ownBlock ≠ some b ∧ ∀ (j : Nat) (u : Value), ns[j]? = some u → w.cell? ((⟨b, 0, none⟩ : Addr).add j) = some u
theorem Have.start (w0 : World) (ns : List Value) : Have w0 none ns (w0.alloc (.cells #[] TM)) (.slice (some ⟨w0.heap.size, 0, none⟩) 0 0) 0 [] :=
  ⟨only_alloc (World.grownBy.refl _ _) _, World.ownsRow_made w0 #[] 0 (Nat.le_refl _) (Nat.zero_le _) rfl, fun b hb => by cases hb⟩
theorem Have.lay {w0 w : World} {ns : List Value} {v : Value} {n : Nat} {cs : List Value} (h : Have w0 none ns w v n cs) (o : Obj) (hn : ∀ (j : Nat) (u : Value), ns[j]? = some u → (w.alloc o).cell? ((⟨w.heap.size, 0, none⟩ : Addr).add j) = some u) :
    Have w0 (some w.heap.size) ns (w.alloc o) v n cs := by
  refine ⟨only_alloc h.1 _, h.2.1.alloc _, fun b hb => ?_⟩
  cases hb
  refine ⟨h.1.size, by simp, fun e => ?_, hn⟩
  have := (h.2.1.lt _ e).2
  omega
theorem Have.laid_next (w0 : World) (ns : List Value) (o : Obj) (hn : ∀ (j : Nat) (u : Value), ns[j]? = some u → ((w0.alloc (.cells #[] TM)).alloc o).cell? ((⟨(w0.alloc (.cells #[] TM)).heap.size, 0, none⟩ : Addr).add j) = some u) :
    Have w0 (some (w0.heap.size + 1)) ns ((w0.alloc (.cells #[] TM)).alloc o) (.slice (some ⟨w0.heap.size, 0, none⟩) 0 0) 0 [] := by
  have h := (Have.start w0 ns).lay o hn
  have e : (w0.alloc (.cells #[] TM)).heap.size = w0.heap.size + 1 := by simp
  rw [e] at h
  exact h
theorem Have.laid_first (w0 : World) (ns : List Value) (o : Obj) (hn : ∀ (j : Nat) (u : Value), ns[j]? = some u → (w0.alloc o).cell? ((⟨w0.heap.size, 0, none⟩ : Addr).add j) = some u) :
    Have w0 (some w0.heap.size) ns ((w0.alloc o).alloc (.cells #[] TM)) (.slice (some ⟨w0.heap.size + 1, 0, none⟩) 0 0) 0 [] := by
  have h := World.ownsRow_made (base := w0.heap.size) (size := 2) (e := TM) (w0.alloc o) #[] 0 (by simp) (Nat.zero_le _) rfl
  have e : (w0.alloc o).heap.size = w0.heap.size + 1 := by simp
  rw [e] at h
  refine ⟨only_alloc (only_alloc (World.grownBy.refl _ _) _) _, h, fun b hb => ?_⟩
  cases hb
  refine ⟨Nat.le_refl _, by simp; omega, fun e => by simp [Value.ownBlock] at e, cells_alloc hn (by simp) _⟩
theorem Have.drewN {w0 w : World} {at_ : Option Nat} {ns : List Value} {v : Value} {n : Nat} {cs : List Value} (h : Have w0 at_ ns w v n cs) (k : Nat) : Have w0 at_ ns (w.drewN k) v n cs :=
  ⟨grownBy_drewN h.1 k, h.2.1, h.2.2⟩
theorem Have.drew {w0 w : World} {at_ : Option Nat} {ns : List Value} {v : Value} {n : Nat} {cs : List Value} (h : Have w0 at_ ns w v n cs) : Have w0 at_ ns w.drew v n cs := h.drewN 1
/-- an append of what came in -/
theorem app_keep {P : Program} {ops : Array Oper} {o : Oper} {a : Act} {w : World} {K : Act → World → Prop} {Q : Exit → Act → World → Prop} {E : Prop} {im : TypeInfo} (hgd : o.guard = none) (s x : Operand) (t : TypeId)
    (ho : o.op = .call { callee := .builtin .append, args := #[s, x], argTypes := #[t, t] }) (ht : P.underlying t = some (.slice TM)) (hi : P.info? TM = some im) (hz : im.zero = some (.agg #[.int .i64 0, .int .i64 0])) (hsize : im.size = 2) (hby : im.bytes = 16)
    {w0 : World} {at_ : Option Nat} {ns : List Value} {v : Value} {n : Nat} {cs : List Value} (h : Have w0 at_ ns w v n cs) (hs : a.eval s = v)
    {g m c base : Nat} {ms : List (Int × Int)} (hx : a.eval x = .slice (some ⟨g, 0, none⟩) m c) (hm : ms.length = m) (hsrc : w0.ownsRow base TM 2 (.slice (some ⟨g, 0, none⟩) m c) m (mcells ms)) (hl : n + m ≤ 1000000)
    (hK : ∀ v' w', Have w0 at_ ns w' v' (n + m) (cs ++ mcells ms) → K (a.put o.dst v') w') : if Region.wanted o (yielded ops a.tmps) = true then Oper.wp P o a w K Q else E := by
  have hw : Region.wanted o (yielded ops a.tmps) = true := by simp [Region.wanted, hgd]
  rw [if_pos hw]
  obtain ⟨hG, hown, hN⟩ := h
  obtain ⟨v', w', hr, h2, h3, _, h5⟩ := run_append_own_at (P := P) w w0.heap.size t o.type TM im (.agg #[.int .i64 0, .int .i64 0]) 2 16 ht hi hz hsize hby rfl (by omega) v n cs hown ⟨g, 0, none⟩ m c (mcells ms) (by rw [mcells_length, hm]) ((own_none hsrc hG).cells (g := g) rfl) (mcells_one _) (by unfold maxLen; omega) (by omega) hG.size
  unfold Oper.wp execOp
  simp only [ho, resolve, invoke, builtin, Sem.run_bind, Sem.run_pure, Result.andThen_ok, List.map_toArray, List.map_cons, List.map_nil, hs, hx, hr]
  refine hK v' w' ⟨grown_own hG h3 (fun k hk => (hown.lt k hk).1), h2, fun b hb => ?_⟩
  obtain ⟨h6, h7, h8, h9⟩ := hN b hb
  refine ⟨h6, by have := h3.size; omega, fun e => ?_, fun j u hj => ?_⟩
  · rcases h5 with h5 | h5
    · exact h8 (by rw [← h5]; exact e)
    · rw [h5] at e; cases e; omega
  · exact (h3.cell_far ((⟨b, 0, none⟩ : Addr).add j) (by rw [block_add]; exact h7) (by rw [block_add]; exact fun e => h8 e.symm)).trans (h9 j u hj)
/-- the append of the marks -/
theorem app_last {P : Program} {ops : Array Oper} {o : Oper} {a : Act} {w : World} {K : Act → World → Prop} {Q : Exit → Act → World → Prop} {E : Prop} {im : TypeInfo} (hgd : o.guard = none) (s x : Operand) (t : TypeId)
    (ho : o.op = .call { callee := .builtin .append, args := #[s, x], argTypes := #[t, t] }) (ht : P.underlying t = some (.slice TM)) (hi : P.info? TM = some im) (hz : im.zero = some (.agg #[.int .i64 0, .int .i64 0])) (hsize : im.size = 2) (hby : im.bytes = 16)
    {w0 : World} {b m c : Nat} {ns : List (Int × Int)} {v : Value} {n : Nat} {cs : List Value} (h : Have w0 (some b) (mcells ns) w v n cs) (hs : a.eval s = v)
    (hx : a.eval x = .slice (some ⟨b, 0, none⟩) m c) (hm : ns.length = m) (hl : n + m ≤ 1000000)
    (hK : ∀ v' w', w0.grownBy w' none → w'.ownsRow w0.heap.size TM 2 v' (n + m) (cs ++ mcells ns) → K (a.put o.dst v') w') : if Region.wanted o (yielded ops a.tmps) = true then Oper.wp P o a w K Q else E := by
  have hw : Region.wanted o (yielded ops a.tmps) = true := by simp [Region.wanted, hgd]
  rw [if_pos hw]
  obtain ⟨hG, hown, hN⟩ := h
  obtain ⟨_, _, _, h9⟩ := hN b rfl
  obtain ⟨v', w', hr, h2, h3, _, _⟩ := run_append_own_at (P := P) w w0.heap.size t o.type TM im (.agg #[.int .i64 0, .int .i64 0]) 2 16 ht hi hz hsize hby rfl (by omega) v n cs hown ⟨b, 0, none⟩ m c (mcells ns) (by rw [mcells_length, hm]) h9 (mcells_one _) (by unfold maxLen; omega) (by omega) hG.size
  unfold Oper.wp execOp
  simp only [ho, resolve, invoke, builtin, Sem.run_bind, Sem.run_pure, Result.andThen_ok, List.map_toArray, List.map_cons, List.map_nil, hs, hx, hr]
  exact hK v' w' (grown_own hG h3 (fun k hk => (hown.lt k hk).1)) h2
end Go.Proofs.Ythiabicleedleaa
/- Contracts of denied claims: the program's own, and the reference's. -/
namespace Go.Proofs.Ythiabicleedleaa
open Go.RowKit Go.Joins
attribute [local irreducible] holds tabN tabV holdsV sameV followsV alwaysV matterV claimOk mayT mayV ctabV ctabN storyV storyOk storyN storyT ctermV ctermL denyV denyOk allV
theorem denyOk_no {p : Int} {c : Cl} (h : claimOk p c = false) : denyOk p c = false ∧ denyV p c = (0, []) := by
  have h1 : denyOk p c = false := by unfold denyOk; rw [h]; rfl
  exact ⟨h1, by unfold denyV; rw [h1]; rfl⟩
theorem denyOk_no2 {p k : Int} {ms : List (Int × Int)} (h : claimOk p (k, ms ++ [(2, 0)]) = false) : denyOk p (k, ms) = false ∧ denyV p (k, ms) = (0, []) := by
  have h1 : denyOk p (k, ms) = false := by
    unfold denyOk denyL
    cases claimOk p (k, ms)
    · rfl
    · exact h
  exact ⟨h1, by unfold denyV; rw [h1]; rfl⟩
theorem denyOk_yes {p k : Int} {ms : List (Int × Int)} (h : claimOk p (k, ms) = true) (h' : claimOk p (k, ms ++ [(2, 0)]) = true) : denyOk p (k, ms) = true ∧ denyV p (k, ms) = (k, ms ++ [(2, 0)]) := by
  have h1 : denyOk p (k, ms) = true := by unfold denyOk denyL; rw [h]; exact h'
  exact ⟨h1, by unfold denyV; rw [h1]; rfl⟩
theorem below_allocs2 (w : World) (a b : Obj) : Below w.heap.size w ((w.alloc a).alloc b) :=
  ((Below.refl _ _).alloc (Nat.le_refl _) _).alloc (by simp) _
/-- the variable of a claim and the result's variable, laid one behind the other -/
theorem two_boxes (w : World) (k : Int) (u : Value) : ∃ w2 : World, w2 = (w.alloc (.cells #[.int .i64 k, u] TC)).alloc (.cells #[.int .i64 0, .slice none 0 0] TC) ∧ Box w2 w.heap.size (.int .i64 k) u ∧ Box w2 (w.heap.size + 1) (.int .i64 0) (.slice none 0 0) ∧ Below w.heap.size w w2 ∧ w2.heap.size = w.heap.size + 2 := by
  obtain ⟨w1, e1, h1, b1, s1⟩ := Box.new w (.int .i64 k) u TC
  obtain ⟨w2, e2, h2, b2, s2⟩ := Box.new w1 (.int .i64 0) (.slice none 0 0) TC
  have hz : w1.heap.size = w.heap.size + 1 := by rw [e1]; simp
  rw [hz] at h2
  exact ⟨w2, by rw [e2, e1], h1.below b2, h2, b1.trans (b2.mono b1.size), by rw [e2, e1]; simp⟩
theorem below_rowD {w w1 w2 : World} {row : Option Nat} (h : Below w.heap.size w w1) (hg : w1.grownBy w2 row) (hr : ∀ k, row = some k → w.heap.size ≤ k) : Below w.heap.size w w2 :=
  ⟨hg.os.trans h.os, hg.tape.trans h.tape, hg.output.trans h.output, Nat.le_trans h.size hg.size, fun i hi => (hg.block i (Nat.lt_of_lt_of_le hi h.size) (fun e => by have := hr i e.symm; omega)).trans (h.block i hi)⟩
/-- what is handed back of a claim that cannot be denied -/
theorem deny_none {w w3 : World} {p : Int} {c : Cl} {g : Nat} {a b : Value} (hg : w.heap.size ≤ g) (hx : Box w3 g a b) (hb : Below w.heap.size w w3) (h : denyOk p c = false ∧ denyV p c = (0, [])) :
    ∃ w4, w4 = (w3.setCell ⟨g, 0, none⟩ (.int .i64 0)).setCell ⟨g, 1, none⟩ (.slice none 0 0) ∧ Box w4 g (.int .i64 0) (.slice none 0 0) ∧ ClaimOut (denyV p c) (denyOk p c) w (.returned (.tuple #[.agg #[.int .i64 0, .slice none 0 0], .bool false])) w4 := by
  obtain ⟨w4, e4, h4, g4⟩ := hx.set (.int .i64 0) (.slice none 0 0)
  refine ⟨w4, e4, h4, ?_⟩
  rw [h.1, h.2]
  exact ⟨_, rfl, World.ownsRow_nil _ _ _ _, below_rowD hb g4 (fun q hq => by cases hq; exact hg)⟩
/-- what is handed back of a claim that is denied -/
theorem deny_some {w w3 w5 : World} {p k : Int} {ms : List (Int × Int)} {g : Nat} {a b x : Value} (hg : w.heap.size ≤ g) (hgr : g < w3.heap.size) (hx : Box w5 g a b) (hb : Below w.heap.size w w5) (ho : w5.ownsRow w3.heap.size TM 2 x (ms.length + 1) (mcells (ms ++ [(2, 0)]))) (h : denyOk p (k, ms) = true ∧ denyV p (k, ms) = (k, ms ++ [(2, 0)])) :
    ∃ w6, w6 = (w5.setCell ⟨g, 0, none⟩ (.int .i64 k)).setCell ⟨g, 1, none⟩ x ∧ Box w6 g (.int .i64 k) x ∧ ClaimOut (denyV p (k, ms)) (denyOk p (k, ms)) w (.returned (.tuple #[.agg #[.int .i64 k, x], .bool true])) w6 := by
  obtain ⟨w6, e6, h6, g6⟩ := hx.set (.int .i64 k) x
  refine ⟨w6, e6, h6, ?_⟩
  rw [h.1, h.2]
  refine ⟨x, rfl, ?_, below_rowD hb g6 (fun q hq => by cases hq; exact hg)⟩
  show w6.ownsRow w.heap.size TM 2 x (ms ++ [(2, 0)]).length _
  rw [List.length_append]
  exact own_mono (own_row ho g6 hgr) (by omega)
set_option maxRecDepth 100000 in
set_option maxHeartbeats 4000000 in
theorem implClaimIfOk_no {p k : Int} {ms : List (Int × Int)} (hok : claimOk p (k, ms) = false) (B : Nat) (u : Value) (w : World) (hr : RdMarks w B u ms) (hB : B ≤ w.heap.size) :
    Calls Try.prog 69 #[.int .i64 p, .agg #[.int .i64 k, u]] w fun e w' => e = .returned (.tuple #[.agg #[.int .i64 0, .slice none 0 0], .bool false]) ∧ Below w.heap.size w w' := by
  have hc := fun w h hB => implClaimOk p k ms B u w h hB
  obtain ⟨w2, hw2, hx2, hy2, hb2, hs2⟩ := two_boxes w k u
  have Hr2 := Lib.hid (hr.below (w' := w2) (fun q hq => hb2.block q (by omega)))
  have hB2 : B ≤ w2.heap.size := by omega
  rw [hok] at hc
  have Hc := Lib.hid hc; clear hc hok hr
  go_enter Try.func69, Try.ntmps69
  go_upto_region 1 with fail
  rw [← hw2]
  clear hw2
  obtain ⟨x1, x2, x3, x4, x5⟩ := hx2
  go_wp2_with fail
  refine (Hc.out _ Hr2.out hB2).mono ?_
  rintro e w3 ⟨rfl, hb3⟩
  have hy3 := hy2.below hb3
  obtain ⟨w4, e4, hx4, g4⟩ := hy3.set (.int .i64 0) (.slice none 0 0)
  have E4 := Lib.hid e4
  have HB4 := Lib.hid (below_rowD (hb2.trans (hb3.mono hb2.size)) g4 (fun q hq => by cases hq; omega))
  obtain ⟨y1, y2, y3, y4, y5⟩ := hy3
  clear e4 g4 hb3 hb2 hy2 x1 x2 x3 x4 x5
  go_wp2
  rw [← E4.out]
  obtain ⟨z1, z2, _⟩ := hx4
  exact bodyPost_ret (by simp [results, Try.results69, go_sem, z1, z2]) rfl ⟨rfl, HB4.out⟩
set_option maxRecDepth 100000 in
set_option maxHeartbeats 4000000 in
theorem implClaimIfOk_yes {p k : Int} {ms : List (Int × Int)} (hok : claimOk p (k, ms) = true) (B : Nat) (u : Value) (w : World) (hr : RdMarks w B u ms) (hB : B ≤ w.heap.size) :
    Calls Try.prog 69 #[.int .i64 p, .agg #[.int .i64 k, u]] w fun e w' => e = .returned (.tuple #[.agg #[.int .i64 k, u], .bool true]) ∧ Below w.heap.size w w' := by
  obtain ⟨ao, cap, rfl⟩ : ∃ ao cap, u = .slice ao ms.length cap := by
    obtain ⟨a, c, h, _⟩ := hr
    exact ⟨a, c, h⟩
  have hc := fun w h hB => implClaimOk p k ms B (.slice ao ms.length cap) w h hB
  obtain ⟨w2, hw2, hx2, hy2, hb2, hs2⟩ := two_boxes w k (.slice ao ms.length cap)
  have Hr2 := Lib.hid (hr.below (w' := w2) (fun q hq => hb2.block q (by omega)))
  have hB2 : B ≤ w2.heap.size := by omega
  rw [hok] at hc
  have Hc := Lib.hid hc; clear hc hok hr
  go_enter Try.func69, Try.ntmps69
  go_upto_region 1 with fail
  rw [← hw2]
  clear hw2
  have HX2 := Lib.hid hx2
  obtain ⟨x1, x2, x3, x4, x5⟩ := hx2
  go_wp2_with fail
  refine (Hc.out _ Hr2.out hB2).mono ?_
  rintro e w3 ⟨rfl, hb3⟩
  have hy3 := hy2.below hb3
  obtain ⟨w4, e4, hx4, g4⟩ := hy3.set (.int .i64 k) (.slice ao ms.length cap)
  have E4 := Lib.hid e4
  have HB4 := Lib.hid (below_rowD (hb2.trans (hb3.mono hb2.size)) g4 (fun q hq => by cases hq; omega))
  obtain ⟨q1, q2, _, _, _⟩ := HX2.out.below hb3
  obtain ⟨y1, y2, y3, y4, y5⟩ := hy3
  clear e4 g4 hb3 hb2 hy2 x1 x2 x3 x4 x5
  go_wp2
  rw [← E4.out]
  obtain ⟨z1, z2, _⟩ := hx4
  exact bodyPost_ret (by simp [results, Try.results69, go_sem, z1, z2]) rfl ⟨rfl, HB4.out⟩
/-- marks and one behind them, out of a row of two parts that the region laid -/
theorem deny_concat (w3 W : World) (g h B : Nat) (u : Value) (ms : List (Int × Int)) (hbW : Below w3.heap.size w3 W) (hr : RdMarks w3 B u ms) (hB : B ≤ w3.heap.size) (hl : ms.length ≤ 100) (hg : g < W.heap.size) (hh : h < W.heap.size) (c0 : W.cell? ⟨g, 0, none⟩ = some u) (c1 : W.cell? ⟨g, 1, none⟩ = some (.slice (some ⟨h, 0, none⟩) 1 1))
    (h0 : W.cell? ⟨h, 0, none⟩ = some (.int .i64 2)) (h1 : W.cell? ⟨h, 1, none⟩ = some (.int .i64 0)) :
    Calls Try.prog 72 #[.slice (some ⟨g, 0, none⟩) 2 2] W fun e w' => ∃ ao cp, e = .returned (.slice ao (ms.length + 1) cp) ∧ Below w3.heap.size w3 w' ∧ w'.ownsRow w3.heap.size TM 2 (.slice ao (ms.length + 1) cp) (ms.length + 1) (mcells (ms ++ [(2, 0)])) ∧ w'.ownsRow W.heap.size TM 2 (.slice ao (ms.length + 1) cp) (ms.length + 1) (mcells (ms ++ [(2, 0)])) ∧ Below W.heap.size W w' := by
  refine (concat2 W g h u ms 2 0 hg hh c0 c1 h0 h1 (I64_small (by omega) (by omega)) (I64_small (by omega) (by omega)) ((hr.below fun q hq => hbW.block q (by omega)).mono (by have := hbW.size; omega)) hl).mono ?_
  rintro e w' ⟨v, rfl, ho, hb⟩
  rw [List.length_append] at ho
  obtain ⟨ao, cp, rfl⟩ := own_len ho
  exact ⟨ao, cp, rfl, hbW.trans (hb.mono hbW.size), own_mono ho hbW.size, ho, hb⟩
set_option maxRecDepth 100000 in
set_option maxHeartbeats 4000000 in
theorem implDenyClaim (p k : Int) (ms : List (Int × Int)) (B : Nat) (u : Value) (w : World) (hr : RdMarks w B u ms) (hB : B ≤ w.heap.size) :
    Calls Try.prog 63 #[.int .i64 p, .agg #[.int .i64 k, u]] w (ClaimOut (denyV p (k, ms)) (denyOk p (k, ms)) w) := by
  have hc := fun w h hB => implClaimOk p k ms B u w h hB
  obtain ⟨w2, hw2, hx2, hy2, hb2, hs2⟩ := two_boxes w k u
  have Hr2 := Lib.hid (hr.below (w' := w2) (fun q hq => hb2.block q (by omega)))
  have hB2 : B ≤ w2.heap.size := by omega
  cases hok : claimOk p (k, ms) with
  | false =>
    have Hf := Lib.hid (denyOk_no hok)
    rw [hok] at hc
    have Hc := Lib.hid hc; clear hc hok hr
    go_enter Try.func63, Try.ntmps63
    go_upto_region 1 with fail
    rw [← hw2]
    clear hw2
    obtain ⟨x1, x2, x3, x4, x5⟩ := hx2
    go_wp2_with fail
    refine (Hc.out _ Hr2.out hB2).mono ?_
    rintro e w3 ⟨rfl, hb3⟩
    have hy3 := hy2.below hb3
    obtain ⟨w4, e4, hx4, hout⟩ := deny_none (w := w) (by omega) hy3 (hb2.trans (hb3.mono hb2.size)) Hf.out
    have E4 := Lib.hid e4
    have Hout := Lib.hid hout
    obtain ⟨y1, y2, y3, y4, y5⟩ := hy3
    clear e4 hout hb3 hb2 hy2 x1 x2 x3 x4 x5
    go_wp2
    rw [← E4.out]
    obtain ⟨z1, z2, _⟩ := hx4
    exact bodyPost_ret (by simp [results, Try.results63, go_sem, z1, z2]) rfl Hout.out
  | true =>
    have hl13 : ms.length ≤ 13 := (claimOk_iff.1 hok).2.2.2
    obtain ⟨ao, cap, rfl⟩ : ∃ ao cap, u = .slice ao ms.length cap := by
      obtain ⟨a, c, h, _⟩ := hr
      exact ⟨a, c, h⟩
    have Hok := Lib.hid hok
    have HI : Hid (I64s (ms ++ [((2 : Int), (0 : Int))])) := by
      obtain ⟨_, _, _, _, _, h, _⟩ := hr
      exact I64s_append h (I64s_one (I64_small (by omega) (by omega)) (I64_small (by omega) (by omega)))
    rw [hok] at hc
    have Hc := Lib.hid hc; clear hc hok hr
    go_enter Try.func63, Try.ntmps63
    go_upto_region 1 with fail
    rw [← hw2]
    clear hw2
    have hx2' := hx2
    obtain ⟨x1, x2, x3, x4, x5⟩ := hx2'
    go_wp2_with fail
    refine (Hc.out _ Hr2.out hB2).mono ?_
    rintro e w3 ⟨rfl, hb3⟩
    have hy3 := hy2.below hb3
    have hx3 := hx2.below hb3
    have Hr3 := Lib.hid (Hr2.out.below (w' := w3) (fun q hq => hb3.block q (by omega)))
    have hB3 : B ≤ w3.heap.size := by have := hb3.size; omega
    have HB3 := Lib.hid (hb2.trans (hb3.mono hb2.size))
    have hs3 : w.heap.size + 1 < w3.heap.size := hy3.2.2.2.2
    have hs3' : w.heap.size < w3.heap.size := by omega
    clear x1 x2 x3 x4 x5 hb3 hb2 hx2 hy2
    have HX3 := Lib.hid hx3
    have HY3 := Lib.hid hy3
    obtain ⟨x1, x2, x3, x4, x5⟩ := hx3
    clear hy3
    cases hok2 : claimOk p (k, ms ++ [(2, 0)]) with
    | false =>
      have Hf := Lib.hid (denyOk_no2 hok2)
      have Hif := Lib.hid (fun B u w h hB => implClaimIfOk_no hok2 B u w h hB)
      clear hok2
      go_upto_region 3 with fail
      go_region_held3 (fun w' => w'.cell? ⟨w.heap.size, 0, none⟩ = some (.int .i64 k) ∧ w'.cell? ⟨w.heap.size, 1, none⟩ = some (.slice ao ms.length cap))
        (first | (refine ⟨?_, ?_⟩ <;> first | go_keep | assumption) | assumption)
        (first
        | (go_at_call 72
           (with_reducible refine (deny_concat w3 _ _ (w3.heap.size) B (.slice ao ms.length cap) ms ?_ Hr3.out hB3 (by omega) ?_ ?_ ?_ ?_ ?_ ?_).mono ?_)
           · first | exact below_allocs2 w3 _ _ | exact below_drew1 (below_allocs2 w3 _ _) | exact below_drewN (below_allocs2 w3 _ _) _
           · first | (simp; done) | (simp; omega)
           · first | (simp; done) | (simp; omega)
           · go_simp
           · go_simp
           · go_simp
           · go_simp
           rintro e w5 ⟨a5, c5, rfl, hb5, ho5, _, _⟩
           go_must (obtain ⟨q1, q2, q3, q4, q5⟩ := HX3.out.below hb5
                    have Ho5 := Lib.hid ho5
                    have HR5 : Hid (RdMarks w5 w5.heap.size (.slice a5 (ms.length + 1) c5) (ms ++ [((2 : Int), (0 : Int))])) := by
                      refine RdMarks.of_own (base := w3.heap.size) (e := TM) ?_ HI.out
                      rw [List.length_append]
                      exact ho5
                    have HY5 := Lib.hid (HY3.out.below hb5)
                    have HX5 := Lib.hid (HX3.out.below hb5)
                    have HB5 := Lib.hid (HB3.out.trans (hb5.mono (by omega)))
                    clear hb5 ho5))
        | (go_at_call 69
           (with_reducible refine (Hif.out w5.heap.size _ _ ?_ ?_).mono ?_)
           · first | exact HR5.out | exact (HR5.out.below (fun q _ => rfl))
           · exact Nat.le_refl _
           rintro e w6 ⟨rfl, hb6'⟩
           go_must (have hb6 : Below w5.heap.size w5 w6 := by first | exact hb6' | exact below_undrewS hb6' | exact below_undrewN hb6'
                    clear hb6'
                    have hy6 := HY5.out.below hb6
                    obtain ⟨p1, p2, _, _, _⟩ := HX5.out.below hb6
                    obtain ⟨w7, e7, hx7, hout⟩ := deny_none (w := w) (by omega) hy6 (HB5.out.trans (hb6.mono HB5.out.size)) Hf.out
                    have E7 := Lib.hid e7
                    have HX7 := Lib.hid hx7
                    have Hout := Lib.hid hout
                    obtain ⟨y1, y2, y3, y4, y5⟩ := hy6
                    clear e7 hx7 hout hb6))
        | fail)
      all_goals
        go_wp2
        rw [← E7.out]
        obtain ⟨z1, z2, _⟩ := HX7.out
        exact bodyPost_ret (by simp [results, Try.results63, go_sem, z1, z2]) rfl Hout.out
    | true =>
      have Hf := Lib.hid (denyOk_yes Hok.out hok2)
      have Hif := Lib.hid (fun B u w h hB => implClaimIfOk_yes hok2 B u w h hB)
      clear hok2
      go_upto_region 3 with fail
      go_region_held3 (fun w' => w'.cell? ⟨w.heap.size, 0, none⟩ = some (.int .i64 k) ∧ w'.cell? ⟨w.heap.size, 1, none⟩ = some (.slice ao ms.length cap))
        (first | (refine ⟨?_, ?_⟩ <;> first | go_keep | assumption) | assumption)
        (first
        | (go_at_call 72
           (with_reducible refine (deny_concat w3 _ _ (w3.heap.size) B (.slice ao ms.length cap) ms ?_ Hr3.out hB3 (by omega) ?_ ?_ ?_ ?_ ?_ ?_).mono ?_)
           · first | exact below_allocs2 w3 _ _ | exact below_drew1 (below_allocs2 w3 _ _) | exact below_drewN (below_allocs2 w3 _ _) _
           · first | (simp; done) | (simp; omega)
           · first | (simp; done) | (simp; omega)
           · go_simp
           · go_simp
           · go_simp
           · go_simp
           rintro e w5 ⟨a5, c5, rfl, hb5, ho5, _, _⟩
           go_must (obtain ⟨q1, q2, q3, q4, q5⟩ := HX3.out.below hb5
                    have Ho5 := Lib.hid ho5
                    have HR5 : Hid (RdMarks w5 w5.heap.size (.slice a5 (ms.length + 1) c5) (ms ++ [((2 : Int), (0 : Int))])) := by
                      refine RdMarks.of_own (base := w3.heap.size) (e := TM) ?_ HI.out
                      rw [List.length_append]
                      exact ho5
                    have HY5 := Lib.hid (HY3.out.below hb5)
                    have HX5 := Lib.hid (HX3.out.below hb5)
                    have HB5 := Lib.hid (HB3.out.trans (hb5.mono (by omega)))
                    clear hb5 ho5))
        | (go_at_call 69
           (with_reducible refine (Hif.out w5.heap.size _ _ ?_ ?_).mono ?_)
           · first | exact HR5.out | exact (HR5.out.below (fun q _ => rfl))
           · exact Nat.le_refl _
           rintro e w6 ⟨rfl, hb6'⟩
           go_must (have hb6 : Below w5.heap.size w5 w6 := by first | exact hb6' | exact below_undrewS hb6' | exact below_undrewN hb6'
                    clear hb6'
                    have hy6 := HY5.out.below hb6
                    obtain ⟨p1, p2, _, _, _⟩ := HX5.out.below hb6
                    obtain ⟨w7, e7, hx7, hout⟩ := deny_some (w := w) (w3 := w3) (by omega) hs3 hy6 (HB5.out.trans (hb6.mono HB5.out.size)) (own_below Ho5.out hb6) Hf.out
                    have E7 := Lib.hid e7
                    have HX7 := Lib.hid hx7
                    have Hout := Lib.hid hout
                    obtain ⟨y1, y2, y3, y4, y5⟩ := hy6
                    clear e7 hx7 hout hb6))
        | fail)
      all_goals
        go_wp2
        rw [← E7.out]
        obtain ⟨z1, z2, _⟩ := HX7.out
        exact bodyPost_ret (by simp [results, Try.results63, go_sem, z1, z2]) rfl Hout.out
end Go.Proofs.Ythiabicleedleaa
/- Contracts of the reference's odd claims. -/
namespace Go.Proofs.Ythiabicleedleaa
open Go.RowKit Go.Joins
attribute [local irreducible] holds tabN tabV holdsV sameV followsV alwaysV matterV claimOk mayT mayV ctabV ctabN storyV storyOk storyN storyT ctermV ctermL sayV neverV alwsV nestL nestOk nestV kindL kindOk kindV
end Go.Proofs.Ythiabicleedleaa
/- Contracts of the reference's odd claims: always said, claims of claims, claims of kinds. -/
namespace Go.Proofs.Ythiabicleedleaa
open Go.RowKit Go.Joins
theorem claim_none {w w3 : World} {g : Nat} {a b : Value} {c : Cl} {o : Bool} (hg : w.heap.size ≤ g) (hx : Box w3 g a b) (hb : Below w.heap.size w w3) (h : o = false ∧ c = (0, [])) :
    ∃ w4, w4 = (w3.setCell ⟨g, 0, none⟩ (.int .i64 0)).setCell ⟨g, 1, none⟩ (.slice none 0 0) ∧ Box w4 g (.int .i64 0) (.slice none 0 0) ∧ ClaimOut c o w (.returned (.tuple #[.agg #[.int .i64 0, .slice none 0 0], .bool false])) w4 := by
  obtain ⟨rfl, rfl⟩ := h
  obtain ⟨w4, e4, h4, g4⟩ := hx.set (.int .i64 0) (.slice none 0 0)
  exact ⟨w4, e4, h4, _, rfl, World.ownsRow_nil _ _ _ _, below_rowD hb g4 (fun q hq => by cases hq; exact hg)⟩
theorem claim_some {w w5 : World} {base : Nat} {k : Int} {ms : List (Int × Int)} {g : Nat} {a b x : Value} {c : Cl} {o : Bool} (hg : w.heap.size ≤ g) (hgr : g < base) (hx : Box w5 g a b) (hb : Below w.heap.size w w5) (ho : w5.ownsRow base TM 2 x ms.length (mcells ms)) (h : o = true ∧ c = (k, ms)) :
    ∃ w6, w6 = (w5.setCell ⟨g, 0, none⟩ (.int .i64 k)).setCell ⟨g, 1, none⟩ x ∧ Box w6 g (.int .i64 k) x ∧ ClaimOut c o w (.returned (.tuple #[.agg #[.int .i64 k, x], .bool true])) w6 := by
  obtain ⟨rfl, rfl⟩ := h
  obtain ⟨w6, e6, h6, g6⟩ := hx.set (.int .i64 k) x
  exact ⟨w6, e6, h6, x, rfl, own_mono (own_row ho g6 hgr) (by omega), below_rowD hb g6 (fun q hq => by cases hq; exact hg)⟩
theorem nest_no {p kw : Int} {c : Cl} (h : claimOk p c = false) : nestOk p kw c = false ∧ nestV p kw c = (0, []) := by
  have h1 : nestOk p kw c = false := by unfold nestOk; rw [h]; rfl
  exact ⟨h1, by unfold nestV; rw [h1]; rfl⟩
theorem nest_no2 {p kw : Int} {c : Cl} (h : claimOk p (kw, ctermL c) = false) : nestOk p kw c = false ∧ nestV p kw c = (0, []) := by
  have h1 : nestOk p kw c = false := by
    unfold nestOk nestL
    cases claimOk p c
    · rfl
    · exact h
  exact ⟨h1, by unfold nestV; rw [h1]; rfl⟩
theorem nest_yes {p kw : Int} {c : Cl} (h : claimOk p c = true) (h' : claimOk p (kw, ctermL c) = true) : nestOk p kw c = true ∧ nestV p kw c = (kw, ctermL c) := by
  have h1 : nestOk p kw c = true := by unfold nestOk nestL; rw [h]; exact h'
  exact ⟨h1, by unfold nestV; rw [h1]; rfl⟩
attribute [local irreducible] holds tabN tabV holdsV sameV followsV alwaysV matterV claimOk mayT mayV ctabV ctabN storyV storyOk storyN storyT ctermV ctermL sayV neverV alwsV nestOk nestV kindOk kindV
end Go.Proofs.Ythiabicleedleaa
/- Contract of the reference's claims of kinds. -/
namespace Go.Proofs.Ythiabicleedleaa
open Go.RowKit Go.Joins
/-- the result's variable, the marks of what is said, and the claim's variable -/
theorem kind_laid (w : World) (k l : Int) : ∃ w3 : World, w3 = ((w.alloc (.cells #[.int .i64 0, .slice none 0 0] TC)).alloc (.cells #[.int .i64 0, .int .i64 l] TM)).alloc (.cells #[.int .i64 k, .slice (some ⟨w.heap.size + 1, 0, none⟩) 1 1] TC) ∧
    Box w3 w.heap.size (.int .i64 0) (.slice none 0 0) ∧ w3.ownsRow (w.heap.size + 1) TM 2 (.slice (some ⟨w.heap.size + 1, 0, none⟩) 1 1) 1 (mcells [(0, l)]) ∧ Box w3 (w.heap.size + 2) (.int .i64 k) (.slice (some ⟨w.heap.size + 1, 0, none⟩) 1 1) ∧ Below w.heap.size w w3 ∧ w3.heap.size = w.heap.size + 3 := by
  obtain ⟨w1, e1, h1, b1, s1⟩ := Box.new w (.int .i64 0) (.slice none 0 0) TC
  have z1 : w1.heap.size = w.heap.size + 1 := by rw [e1]; simp
  obtain ⟨w2, e2⟩ : ∃ w2, w2 = w1.alloc (.cells #[.int .i64 0, .int .i64 l] TM) := ⟨_, rfl⟩
  have z2 : w2.heap.size = w.heap.size + 2 := by rw [e2]; simp [z1]
  have ho2 : w2.ownsRow (w.heap.size + 1) TM 2 (.slice (some ⟨w.heap.size + 1, 0, none⟩) 1 1) 1 (mcells [(0, l)]) := by
    have h := own_new w1 (w.heap.size + 1) 0 l (by omega)
    rw [z1] at h
    rw [e2]; exact h
  have b2 : Below w1.heap.size w1 w2 := by rw [e2]; exact (Below.refl _ _).alloc (Nat.le_refl _) _
  obtain ⟨w3, e3, h3, b3, s3⟩ := Box.new w2 (.int .i64 k) (.slice (some ⟨w.heap.size + 1, 0, none⟩) 1 1) TC
  rw [z2] at h3
  exact ⟨w3, by rw [e3, e2, e1], (h1.below b2).below b3, own_below ho2 b3, h3, b1.trans ((b2.mono (by omega)).trans (b3.mono (by omega))), by rw [e3]; simp [z2]⟩
theorem kindV_no {p k l : Int} {t : Bool} (h : kindOk p k l t = false) : kindOk p k l t = false ∧ kindV p k l t = (0, []) := ⟨h, by unfold kindV; rw [h]; rfl⟩
theorem kindV_yes {p k l : Int} {t : Bool} (h : kindOk p k l t = true) : kindOk p k l t = true ∧ kindV p k l t = kindL k l t := ⟨h, by unfold kindV; rw [h]; rfl⟩
attribute [local irreducible] holds tabN tabV holdsV sameV followsV alwaysV matterV claimOk mayT mayV ctabV ctabN storyV storyOk storyN storyT ctermV ctermL sayV neverV alwsV nestOk nestV kindOk kindV
set_option maxRecDepth 100000 in
set_option maxHeartbeats 4000000 in
theorem specKindClaim (p k l : Int) (t : Bool) (hl : I64 l) (w : World) :
    Calls Try.prog 55 #[.int .i64 p, .int .i64 k, .int .i64 l, .bool t] w (ClaimOut (kindV p k l t) (kindOk p k l t) w) := by
  obtain ⟨im, hmi, hmz0, hmz1, hmz2⟩ := info_parts Try.infoM
  have Mi := Lib.hid hmi; clear hmi
  have Mz0 := Lib.hid hmz0; clear hmz0
  have Mz1 := Lib.hid hmz1; clear hmz1
  have Mz2 := Lib.hid hmz2; clear hmz2
  obtain ⟨w3, hw3, hx3, ho3, hz3, hb3, hs3⟩ := kind_laid w k l
  have HX3 := Lib.hid hx3
  have HO3 := Lib.hid ho3
  have HZ3 := Lib.hid hz3
  have HB3 := Lib.hid hb3
  have Hl := Lib.hid hl
  clear hx3 ho3 hb3 hl
  cases t with
  | true =>
    have hc := fun B v w h hB => specClaimOk p k [(0, l)] B v w h hB
    rw [show claimOk p (k, [(0, l)]) = kindOk p k l true by unfold kindOk; rfl] at hc
    have HI : Hid (I64s [((0 : Int), l)]) := I64s_one (I64_small (by omega) (by omega)) Hl.out
    cases hok : kindOk p k l true with
    | false =>
      have Hf := Lib.hid (kindV_no hok)
      rw [hok] at hc
      have Hc := Lib.hid hc; clear hc hok
      obtain ⟨x1, x2, x3, x4, x5⟩ := hz3
      go_enter Try.func55, Try.ntmps55
      go_upto_region 2 with fail
      rw [← hw3]
      clear hw3
      go_wp2_with fail
      refine (Hc.out w3.heap.size _ w3 (RdMarks.of_own (ms := [(0, l)]) HO3.out HI.out) (Nat.le_refl _)).mono ?_
      rintro e w5 ⟨rfl, hb5⟩
      have hx5 := HX3.out.below hb5
      obtain ⟨w6, e6, hx6, hout⟩ := claim_none (w := w) (by omega) hx5 (HB3.out.trans (hb5.mono (by omega))) (by have h := Hf.out; exact h)
      rw [Hf.out.1] at hout
      have E6 := Lib.hid e6
      have Hout := Lib.hid hout
      obtain ⟨y1, y2, y3, y4, y5⟩ := hx5
      clear e6 hout hb5 x1 x2 x3 x4 x5
      go_wp2
      rw [← E6.out]
      obtain ⟨z1, z2, _⟩ := hx6
      exact bodyPost_ret (by simp [results, Try.results55, go_sem, z1, z2]) rfl Hout.out
    | true =>
      have Hf := Lib.hid (kindV_yes hok)
      rw [hok] at hc
      have Hc := Lib.hid hc; clear hc hok
      obtain ⟨x1, x2, x3, x4, x5⟩ := hz3
      go_enter Try.func55, Try.ntmps55
      go_upto_region 2 with fail
      rw [← hw3]
      clear hw3
      go_wp2_with fail
      refine (Hc.out w3.heap.size _ w3 (RdMarks.of_own (ms := [(0, l)]) HO3.out HI.out) (Nat.le_refl _)).mono ?_
      rintro e w5 ⟨rfl, hb5⟩
      have hx5 := HX3.out.below hb5
      obtain ⟨w6, e6, hx6, hout⟩ := claim_some (w := w) (base := w.heap.size + 1) (k := k) (ms := [(0, l)]) (Nat.le_refl _) (by omega) hx5 (HB3.out.trans (hb5.mono (by omega))) (own_below HO3.out hb5) (by have h := Hf.out; exact h)
      rw [Hf.out.1] at hout
      have E6 := Lib.hid e6
      have Hout := Lib.hid hout
      have q1 := (hb5.cell (p := ⟨w.heap.size + 2, 0, none⟩) x5).trans x1
      have q2 := (hb5.cell (p := ⟨w.heap.size + 2, 1, none⟩) x5).trans x2
      obtain ⟨y1, y2, y3, y4, y5⟩ := hx5
      clear e6 hout hb5 x1 x2 x3 x4 x5
      go_wp2
      rw [← E6.out]
      obtain ⟨z1, z2, _⟩ := hx6
      exact bodyPost_ret (by simp [results, Try.results55, go_sem, z1, z2]) rfl Hout.out
  | false =>
    have hc := fun B v w h hB => specClaimOk p k [(0, l), (2, 0)] B v w h hB
    rw [show claimOk p (k, [(0, l), (2, 0)]) = kindOk p k l false by unfold kindOk; rfl] at hc
    have HI : Hid (I64s [((0 : Int), l), (2, 0)]) := I64s_two (I64_small (by omega) (by omega)) Hl.out (I64_small (by omega) (by omega)) (I64_small (by omega) (by omega))
    cases hok : kindOk p k l false with
    | false =>
      have Hf := Lib.hid (kindV_no hok)
      rw [hok] at hc
      have Hc := Lib.hid hc; clear hc hok
      obtain ⟨x1, x2, x3, x4, x5⟩ := hz3
      go_enter Try.func55, Try.ntmps55
      go_upto_region 2 with fail
      rw [← hw3]
      clear hw3
      go_wp2_with (first
        | (at_builtin; refine wpList_append_own_at _ rfl (.tmp 19) (.tmp 21) 31 rfl (w.heap.size + 1) TM im (.agg #[.int .i64 0, .int .i64 0]) 2 16 Try.underlying31 Mi.out Mz0.out Mz1.out Mz2.out rfl (by decide) _ _ _ rfl (HO3.out.alloc _) ⟨w.heap.size + 3, 0, none⟩ 1 1 (mcells [(2, 0)]) rfl rfl (news2 _ _ (by omega) _ _ _) (mcells_one _) (by unfold maxLen; omega) (by omega) (by simp; omega) ?_
           go_must (intro v4 w4 hown4 hgr4 _ hat4
                    have hgr4' : (w3.alloc (.cells #[.int .i64 2, .int .i64 0] TM)).grownBy w4 (some (w.heap.size + 1)) := hgr4
                    have Hx4 := Lib.hid ((HX3.out.alloc (.cells #[.int .i64 2, .int .i64 0] TM)).grown hgr4' (by simp))
                    have hz4 := (HZ3.out.alloc (.cells #[.int .i64 2, .int .i64 0] TM)).grown hgr4' (by simp)
                    have Hb4 := Lib.hid (below_rowD (HB3.out.alloc (by omega) (.cells #[.int .i64 2, .int .i64 0] TM)) hgr4' (fun q hq => by cases hq; omega))
                    have hs4 := hgr4'.size
                    simp at hs4
                    have hat4' : v4.ownBlock = some (w.heap.size + 1) ∨ v4.ownBlock = some (w3.alloc (.cells #[.int .i64 2, .int .i64 0] TM)).heap.size := hat4
                    have Hat4 : Hid (v4.ownBlock ≠ some (w.heap.size + 2)) := by
                      unfold Hid
                      rcases hat4' with h | h
                      · rw [h]; simp
                      · rw [h]; simp; omega
                    obtain ⟨a4, c4, hv4⟩ := own_len hown4
                    subst hv4
                    have Hown4 := Lib.hid hown4
                    have HZ4 := Lib.hid hz4
                    obtain ⟨t1, t2, t3, t4, t5⟩ := hz4
                    clear hown4 hgr4 hgr4' hat4 hat4' x1 x2 x3 x4 x5))
        | fail)
      obtain ⟨w5, e5, hz5, hg5⟩ := HZ4.out.set1 (.slice a4 (1 + 1) c4)
      rw [← e5]
      have Hx5 := Lib.hid (Hx4.out.grown hg5 (by simp))
      have Hb5 := Lib.hid (below_rowD Hb4.out hg5 (fun q hq => by cases hq; omega))
      have Ho5 : Hid (w5.ownsRow (w.heap.size + 1) TM 2 (.slice a4 (1 + 1) c4) 2 (mcells [(0, l), (2, 0)])) := Hown4.out.kept hg5 (.inr Hat4.out)
      have hs5 := hg5.size
      obtain ⟨r1, r2, r3, r4, r5⟩ := hz5
      clear e5 hg5 t1 t2 t3 t4 t5
      refine (Hc.out w5.heap.size _ w5 (RdMarks.of_own (ms := [(0, l), (2, 0)]) Ho5.out HI.out) (Nat.le_refl _)).mono ?_
      rintro e w6 ⟨rfl, hb6⟩
      have hx6 := Hx5.out.below hb6
      obtain ⟨w7, e7, hx7, hout⟩ := claim_none (w := w) (by omega) hx6 (Hb5.out.trans (hb6.mono (by omega))) (by have h := Hf.out; exact h)
      rw [Hf.out.1] at hout
      have E7 := Lib.hid e7
      have Hout := Lib.hid hout
      obtain ⟨y1, y2, y3, y4, y5⟩ := hx6
      clear e7 hout hb6 r1 r2 r3 r4 r5
      go_wp2
      rw [← E7.out]
      obtain ⟨z1, z2, _⟩ := hx7
      exact bodyPost_ret (by simp [results, Try.results55, go_sem, z1, z2]) rfl Hout.out
    | true =>
      have Hf := Lib.hid (kindV_yes hok)
      rw [hok] at hc
      have Hc := Lib.hid hc; clear hc hok
      obtain ⟨x1, x2, x3, x4, x5⟩ := hz3
      go_enter Try.func55, Try.ntmps55
      go_upto_region 2 with fail
      rw [← hw3]
      clear hw3
      go_wp2_with (first
        | (at_builtin; refine wpList_append_own_at _ rfl (.tmp 19) (.tmp 21) 31 rfl (w.heap.size + 1) TM im (.agg #[.int .i64 0, .int .i64 0]) 2 16 Try.underlying31 Mi.out Mz0.out Mz1.out Mz2.out rfl (by decide) _ _ _ rfl (HO3.out.alloc _) ⟨w.heap.size + 3, 0, none⟩ 1 1 (mcells [(2, 0)]) rfl rfl (news2 _ _ (by omega) _ _ _) (mcells_one _) (by unfold maxLen; omega) (by omega) (by simp; omega) ?_
           go_must (intro v4 w4 hown4 hgr4 _ hat4
                    have hgr4' : (w3.alloc (.cells #[.int .i64 2, .int .i64 0] TM)).grownBy w4 (some (w.heap.size + 1)) := hgr4
                    have Hx4 := Lib.hid ((HX3.out.alloc (.cells #[.int .i64 2, .int .i64 0] TM)).grown hgr4' (by simp))
                    have hz4 := (HZ3.out.alloc (.cells #[.int .i64 2, .int .i64 0] TM)).grown hgr4' (by simp)
                    have Hb4 := Lib.hid (below_rowD (HB3.out.alloc (by omega) (.cells #[.int .i64 2, .int .i64 0] TM)) hgr4' (fun q hq => by cases hq; omega))
                    have hs4 := hgr4'.size
                    simp at hs4
                    have hat4' : v4.ownBlock = some (w.heap.size + 1) ∨ v4.ownBlock = some (w3.alloc (.cells #[.int .i64 2, .int .i64 0] TM)).heap.size := hat4
                    have Hat4 : Hid (v4.ownBlock ≠ some (w.heap.size + 2)) := by
                      unfold Hid
                      rcases hat4' with h | h
                      · rw [h]; simp
                      · rw [h]; simp; omega
                    obtain ⟨a4, c4, hv4⟩ := own_len hown4
                    subst hv4
                    have Hown4 := Lib.hid hown4
                    have HZ4 := Lib.hid hz4
                    obtain ⟨t1, t2, t3, t4, t5⟩ := hz4
                    clear hown4 hgr4 hgr4' hat4 hat4' x1 x2 x3 x4 x5))
        | fail)
      obtain ⟨w5, e5, hz5, hg5⟩ := HZ4.out.set1 (.slice a4 (1 + 1) c4)
      rw [← e5]
      have Hx5 := Lib.hid (Hx4.out.grown hg5 (by simp))
      have Hb5 := Lib.hid (below_rowD Hb4.out hg5 (fun q hq => by cases hq; omega))
      have Ho5 : Hid (w5.ownsRow (w.heap.size + 1) TM 2 (.slice a4 (1 + 1) c4) 2 (mcells [(0, l), (2, 0)])) := Hown4.out.kept hg5 (.inr Hat4.out)
      have hs5 := hg5.size
      obtain ⟨r1, r2, r3, r4, r5⟩ := hz5
      clear e5 hg5 t1 t2 t3 t4 t5
      refine (Hc.out w5.heap.size _ w5 (RdMarks.of_own (ms := [(0, l), (2, 0)]) Ho5.out HI.out) (Nat.le_refl _)).mono ?_
      rintro e w6 ⟨rfl, hb6⟩
      have hx6 := Hx5.out.below hb6
      obtain ⟨w7, e7, hx7, hout⟩ := claim_some (w := w) (base := w.heap.size + 1) (k := k) (ms := [(0, l), (2, 0)]) (Nat.le_refl _) (by omega) hx6 (Hb5.out.trans (hb6.mono (by omega))) (own_below Ho5.out hb6) (by have h := Hf.out; exact h)
      rw [Hf.out.1] at hout
      have E7 := Lib.hid e7
      have Hout := Lib.hid hout
      have q1 := (hb6.cell (p := ⟨w.heap.size + 2, 0, none⟩) r5).trans r1
      have q2 := (hb6.cell (p := ⟨w.heap.size + 2, 1, none⟩) r5).trans r2
      obtain ⟨y1, y2, y3, y4, y5⟩ := hx6
      clear e7 hout hb6 r1 r2 r3 r4 r5
      go_wp2
      rw [← E7.out]
      obtain ⟨z1, z2, _⟩ := hx7
      exact bodyPost_ret (by simp [results, Try.results55, go_sem, z1, z2]) rfl Hout.out
end Go.Proofs.Ythiabicleedleaa

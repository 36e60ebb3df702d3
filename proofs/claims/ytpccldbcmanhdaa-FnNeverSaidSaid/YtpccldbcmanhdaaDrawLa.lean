/- The reference model's draw of odd claims. -/
import Derived.Test.YtpccldbcmanhdaaDrawC
import Derived.Test.YtpccldbcmanhdaaOddK
import Derived.Test.YtpccldbcmanhdaaHave
import Derived.Deep.RegionHeld3
import Derived.Deep.Cut
namespace Go.Proofs.Ytpccldbcmanhdaa
open Go.RowKit Go.Joins
theorem size_allocX (w : World) (o : Obj) : (w.alloc o).heap.size = w.heap.size + 1 := by simp
theorem cell_drewX (w : World) (a : Addr) : w.drew.cell? a = w.cell? a := rfl
theorem cell_drewNX (w : World) (n : Nat) (a : Addr) : (w.drewN n).cell? a = w.cell? a := rfl
/-- in the midst of a region that draws its order: a row of its own, marks laid for an append, and the variable of a claim, each if it lies already -/
def St (w0 : World) (ro : Option (Value × Nat × List Value)) (mo : Option Nat) (ns : List Value) (bo : Option Nat) (w : World) : Prop :=
  w0.grownBy w none ∧ (∀ v n cs, ro = some (v, n, cs) → w.ownsRow w0.heap.size TM 2 v n cs) ∧ (∀ m, mo = some m → w0.heap.size ≤ m ∧ m < w.heap.size ∧ ∀ (j : Nat) (u : Value), ns[j]? = some u → w.cell? ((⟨m, 0, none⟩ : Addr).add j) = some u) ∧
    (∀ A, bo = some A → w0.heap.size ≤ A ∧ Box w A (.int .i64 0) (.slice none 0 0)) ∧ (∀ v n cs m, ro = some (v, n, cs) → mo = some m → v.ownBlock ≠ some m) ∧ (∀ v n cs A, ro = some (v, n, cs) → bo = some A → v.ownBlock ≠ some A)
theorem St.nil (w0 : World) (ns : List Value) : St w0 none none ns none w0 :=
  ⟨World.grownBy.refl _ _, fun _ _ _ h => by (cases h), fun _ h => by (cases h), fun _ h => by (cases h), fun _ _ _ _ h => by (cases h), fun _ _ _ _ h => by (cases h)⟩
theorem St.row {w0 w : World} {mo bo : Option Nat} {ns : List Value} (h : St w0 none mo ns bo w) : St w0 (some (.slice (some ⟨w.heap.size, 0, none⟩) 0 0, 0, [])) mo ns bo (w.alloc (.cells #[] TM)) := by
  obtain ⟨h1, _, h3, h4, _, _⟩ := h
  refine ⟨only_alloc h1 _, fun v n cs e => ?_, fun m e => ?_, fun A e => ⟨(h4 A e).1, (h4 A e).2.alloc _⟩, fun v n cs m e e2 => ?_, fun v n cs A e e2 => ?_⟩
  · simp only [Option.some.injEq, Prod.mk.injEq] at e
    obtain ⟨rfl, rfl, rfl⟩ := e
    exact World.ownsRow_made w #[] 0 h1.size (Nat.zero_le _) rfl
  · obtain ⟨g1, g2, g3⟩ := h3 m e
    exact ⟨g1, by rw [size_allocX]; omega, cells_alloc g3 g2 _⟩
  · simp only [Option.some.injEq, Prod.mk.injEq] at e
    obtain ⟨rfl, rfl, rfl⟩ := e
    have := (h3 m e2).2.1
    intro e3; simp [Value.ownBlock] at e3; omega
  · simp only [Option.some.injEq, Prod.mk.injEq] at e
    obtain ⟨rfl, rfl, rfl⟩ := e
    have := (h4 A e2).2.2.2.2.2
    intro e3; simp [Value.ownBlock] at e3; omega
theorem St.lay {w0 w : World} {ro : Option (Value × Nat × List Value)} {bo : Option Nat} {ns : List Value} (h : St w0 ro none ns bo w) (o : Obj) (hn : ∀ (j : Nat) (u : Value), ns[j]? = some u → (w.alloc o).cell? ((⟨w.heap.size, 0, none⟩ : Addr).add j) = some u) : St w0 ro (some w.heap.size) ns bo (w.alloc o) := by
  obtain ⟨h1, h2, _, h4, _, h6⟩ := h
  refine ⟨only_alloc h1 _, fun v n cs e => (h2 v n cs e).alloc _, fun m e => ?_, fun A e => ⟨(h4 A e).1, (h4 A e).2.alloc _⟩, fun v n cs m e e2 e3 => ?_, h6⟩
  · cases e
    exact ⟨h1.size, by rw [size_allocX]; omega, hn⟩
  · cases e2
    have := ((h2 v n cs e).lt _ e3).2
    omega
theorem St.lay4 {w0 w : World} {ro : Option (Value × Nat × List Value)} {bo : Option Nat} {a x b y : Int} {T : TypeId} (h : St w0 ro none (mcells [(a, x), (b, y)]) bo w) : St w0 ro (some w.heap.size) (mcells [(a, x), (b, y)]) bo (w.alloc (.cells #[.int .i64 a, .int .i64 x, .int .i64 b, .int .i64 y] T)) := h.lay _ (news4 _ _ rfl _ _ _ _ _)
theorem St.claim {w0 w : World} {ro : Option (Value × Nat × List Value)} {mo : Option Nat} {ns : List Value} (h : St w0 ro mo ns none w) : St w0 ro mo ns (some w.heap.size) (w.alloc (.cells #[.int .i64 0, .slice none 0 0] TC)) := by
  obtain ⟨h1, h2, h3, _, h5, _⟩ := h
  refine ⟨only_alloc h1 _, fun v n cs e => (h2 v n cs e).alloc _, fun m e => ?_, fun A e => ?_, h5, fun v n cs A e e2 e3 => ?_⟩
  · obtain ⟨g1, g2, g3⟩ := h3 m e
    exact ⟨g1, by rw [size_allocX]; omega, cells_alloc g3 g2 _⟩
  · cases e
    obtain ⟨w1, e1, hx, _, _⟩ := Box.new w (.int .i64 0) (.slice none 0 0) TC
    rw [← e1]
    exact ⟨h1.size, hx⟩
  · cases e2
    have := ((h2 v n cs e).lt _ e3).2
    omega
theorem St.drewN {w0 w : World} {ro : Option (Value × Nat × List Value)} {mo bo : Option Nat} {ns : List Value} (h : St w0 ro mo ns bo w) (k : Nat) : St w0 ro mo ns bo (w.drewN k) := ⟨grownBy_drewN h.1 k, h.2⟩
theorem St.drew {w0 w : World} {ro : Option (Value × Nat × List Value)} {mo bo : Option Nat} {ns : List Value} (h : St w0 ro mo ns bo w) : St w0 ro mo ns bo w.drew := h.drewN 1
theorem St.grow {w0 w w' : World} {v v' : Value} {n n' : Nat} {cs cs' : List Value} {mo bo : Option Nat} {ns : List Value} (h : St w0 (some (v, n, cs)) mo ns bo w) (ho : w'.ownsRow w0.heap.size TM 2 v' n' cs') (hg : w.grownBy w' v.ownBlock) (hv : v'.ownBlock = v.ownBlock ∨ v'.ownBlock = some w.heap.size) : St w0 (some (v', n', cs')) mo ns bo w' := by
  obtain ⟨h1, h2, h3, h4, h5, h6⟩ := h
  have hown := h2 v n cs rfl
  refine ⟨grown_own h1 hg (fun k hk => (hown.lt k hk).1), fun a b c e => ?_, fun m e => ?_, fun A e => ?_, fun a b c m e e2 e3 => ?_, fun a b c A e e2 e3 => ?_⟩
  · simp only [Option.some.injEq, Prod.mk.injEq] at e
    obtain ⟨rfl, rfl, rfl⟩ := e
    exact ho
  · obtain ⟨g1, g2, g3⟩ := h3 m e
    have hne := h5 v n cs m rfl e
    refine ⟨g1, by have := hg.size; omega, fun j u hj => ?_⟩
    exact (hg.cell_far ((⟨m, 0, none⟩ : Addr).add j) (by rw [block_add]; exact g2) (by rw [block_add]; exact fun e => hne e.symm)).trans (g3 j u hj)
  · exact ⟨(h4 A e).1, (h4 A e).2.grown hg (h6 v n cs A rfl e)⟩
  · simp only [Option.some.injEq, Prod.mk.injEq] at e
    obtain ⟨rfl, rfl, rfl⟩ := e
    rcases hv with hv | hv
    · exact h5 v n cs m rfl e2 (by rw [← hv]; exact e3)
    · rw [hv] at e3; cases e3
      have := (h3 _ e2).2.1
      omega
  · simp only [Option.some.injEq, Prod.mk.injEq] at e
    obtain ⟨rfl, rfl, rfl⟩ := e
    rcases hv with hv | hv
    · exact h6 v n cs A rfl e2 (by rw [← hv]; exact e3)
    · rw [hv] at e3; cases e3
      have := (h4 _ e2).2.2.2.2.2
      omega
theorem St.boxAt {w0 w : World} {ro : Option (Value × Nat × List Value)} {mo : Option Nat} {ns : List Value} {A : Nat} (h : St w0 ro mo ns (some A) w) : Box w A (.int .i64 0) (.slice none 0 0) := (h.2.2.2.1 A rfl).2
theorem St.ended {w0 w w6 : World} {v : Value} {n A : Nat} {cs : List Value} {mo : Option Nat} {ns : List Value} (h : St w0 (some (v, n, cs)) mo ns (some A) w) (hg : w.grownBy w6 (some A)) : w6.ownsRow w0.heap.size TM 2 v n cs ∧ w0.grownBy w6 none := by
  obtain ⟨h1, h2, _, h4, _, h6⟩ := h
  exact ⟨(h2 v n cs rfl).kept hg (.inr (h6 v n cs A rfl rfl)), grown_own h1 hg (fun q hq => by cases hq; exact (h4 A rfl).1)⟩
theorem St.ended0 {w0 w w6 : World} {v : Value} {n : Nat} {cs : List Value} {mo bo : Option Nat} {ns : List Value} (h : St w0 (some (v, n, cs)) mo ns bo w) (hb : Below w.heap.size w w6) : w6.ownsRow w0.heap.size TM 2 v n cs ∧ w0.grownBy w6 none :=
  ⟨own_below (h.2.1 v n cs rfl) hb, ⟨hb.os.trans h.1.os, hb.tape.trans h.1.tape, hb.output.trans h.1.output, Nat.le_trans h.1.size hb.size, fun i hi hne => (hb.block i (Nat.lt_of_lt_of_le hi h.1.size)).trans (h.1.block i hi hne)⟩⟩
/-- an append of what came in -/
theorem st_keep {P : Program} {ops : Array Oper} {o : Oper} {a : Act} {w : World} {K : Act → World → Prop} {Q : Exit → Act → World → Prop} {E : Prop} {im : TypeInfo} (hgd : o.guard = none) (s x : Operand) (t : TypeId)
    (ho : o.op = .call { callee := .builtin .append, args := #[s, x], argTypes := #[t, t] }) (ht : P.underlying t = some (.slice TM)) (hi : P.info? TM = some im) (hz : im.zero = some (.agg #[.int .i64 0, .int .i64 0])) (hsize : im.size = 2) (hby : im.bytes = 16)
    {w0 : World} {mo bo : Option Nat} {ns : List Value} {v : Value} {n : Nat} {cs : List Value} (h : St w0 (some (v, n, cs)) mo ns bo w) (hs : a.eval s = v)
    {g m c base : Nat} {ms : List (Int × Int)} (hx : a.eval x = .slice (some ⟨g, 0, none⟩) m c) (hm : ms.length = m) (hsrc : w0.ownsRow base TM 2 (.slice (some ⟨g, 0, none⟩) m c) m (mcells ms)) (hl : n + m ≤ 1000000)
    (hK : ∀ v' w', St w0 (some (v', n + m, cs ++ mcells ms)) mo ns bo w' → K (a.put o.dst v') w') : if Region.wanted o (yielded ops a.tmps) = true then Oper.wp P o a w K Q else E := by
  have hw : Region.wanted o (yielded ops a.tmps) = true := by simp [Region.wanted, hgd]
  rw [if_pos hw]
  have hown := h.2.1 v n cs rfl
  obtain ⟨v', w', hr, h2, h3, _, h5⟩ := run_append_own_at (P := P) w w0.heap.size t o.type TM im (.agg #[.int .i64 0, .int .i64 0]) 2 16 ht hi hz hsize hby rfl (by omega) v n cs hown ⟨g, 0, none⟩ m c (mcells ms) (by rw [mcells_length, hm]) ((own_none hsrc h.1).cells (g := g) rfl) (mcells_one _) (by unfold maxLen; omega) (by omega) h.1.size
  unfold Oper.wp execOp
  simp only [ho, resolve, invoke, builtin, Sem.run_bind, Sem.run_pure, Result.andThen_ok, List.map_toArray, List.map_cons, List.map_nil, hs, hx, hr]
  exact hK v' w' (h.grow h2 h3 h5)
/-- the append of the marks -/
theorem st_last {P : Program} {ops : Array Oper} {o : Oper} {a : Act} {w : World} {K : Act → World → Prop} {Q : Exit → Act → World → Prop} {E : Prop} {im : TypeInfo} (hgd : o.guard = none) (s x : Operand) (t : TypeId)
    (ho : o.op = .call { callee := .builtin .append, args := #[s, x], argTypes := #[t, t] }) (ht : P.underlying t = some (.slice TM)) (hi : P.info? TM = some im) (hz : im.zero = some (.agg #[.int .i64 0, .int .i64 0])) (hsize : im.size = 2) (hby : im.bytes = 16)
    {w0 : World} {b m c : Nat} {bo : Option Nat} {ns : List (Int × Int)} {v : Value} {n : Nat} {cs : List Value} (h : St w0 (some (v, n, cs)) (some b) (mcells ns) bo w) (hs : a.eval s = v)
    (hx : a.eval x = .slice (some ⟨b, 0, none⟩) m c) (hm : ns.length = m) (hl : n + m ≤ 1000000)
    (hK : ∀ v' w', St w0 (some (v', n + m, cs ++ mcells ns)) (some b) (mcells ns) bo w' → K (a.put o.dst v') w') : if Region.wanted o (yielded ops a.tmps) = true then Oper.wp P o a w K Q else E := by
  have hw : Region.wanted o (yielded ops a.tmps) = true := by simp [Region.wanted, hgd]
  rw [if_pos hw]
  have hown := h.2.1 v n cs rfl
  obtain ⟨_, _, h9⟩ := h.2.2.1 b rfl
  obtain ⟨v', w', hr, h2, h3, _, h5⟩ := run_append_own_at (P := P) w w0.heap.size t o.type TM im (.agg #[.int .i64 0, .int .i64 0]) 2 16 ht hi hz hsize hby rfl (by omega) v n cs hown ⟨b, 0, none⟩ m c (mcells ns) (by rw [mcells_length, hm]) h9 (mcells_one _) (by unfold maxLen; omega) (by omega) h.1.size
  unfold Oper.wp execOp
  simp only [ho, resolve, invoke, builtin, Sem.run_bind, Sem.run_pure, Result.andThen_ok, List.map_toArray, List.map_cons, List.map_nil, hs, hx, hr]
  exact hK v' w' (h.grow h2 h3 h5)
/-- in the midst of a region that draws its order: the reader, and the variable of a claim, if it lies already -/
def Sp (w0 : World) (b c : Nat) (bo : Option Nat) (w : World) : Prop :=
  w0.grownBy w (some b) ∧ Rd w b c ∧ ∀ A, bo = some A → w0.heap.size ≤ A ∧ Box w A (.int .i64 0) (.slice none 0 0)
theorem Sp.nil {w0 : World} {b c : Nat} (h : Rd w0 b c) : Sp w0 b c none w0 := ⟨World.grownBy.refl _ _, h, fun _ h => by (cases h)⟩
theorem Sp.claim {w0 w : World} {b c : Nat} (h : Sp w0 b c none w) : Sp w0 b c (some w.heap.size) (w.alloc (.cells #[.int .i64 0, .slice none 0 0] TC)) := by
  refine ⟨only_alloc h.1 _, h.2.1.alloc _, fun A e => ?_⟩
  cases e
  obtain ⟨w1, e1, hx, _, _⟩ := Box.new w (.int .i64 0) (.slice none 0 0) TC
  rw [← e1]
  exact ⟨h.1.size, hx⟩
theorem Sp.drewN {w0 w : World} {b c : Nat} {bo : Option Nat} (h : Sp w0 b c bo w) (k : Nat) : Sp w0 b c bo (w.drewN k) := ⟨grownBy_drewN h.1 k, h.2⟩
theorem Sp.drew {w0 w : World} {b c : Nat} {bo : Option Nat} (h : Sp w0 b c bo w) : Sp w0 b c bo w.drew := h.drewN 1
theorem Sp.read {w0 w w' : World} {b c c' : Nat} {bo : Option Nat} (h : Sp w0 b c bo w) (hb : b < w0.heap.size) (hg : w.grownBy w' (some b)) (hr : Rd w' b c') : Sp w0 b c' bo w' :=
  ⟨grownBy_trans h.1 hg, hr, fun A e => ⟨(h.2.2 A e).1, (h.2.2 A e).2.grown hg (by have := (h.2.2 A e).1; simp; omega)⟩⟩
theorem Sp.called {w0 w w' : World} {b c : Nat} {bo : Option Nat} (h : Sp w0 b c bo w) (hb : Below w.heap.size w w') : Sp w0 b c bo w' :=
  ⟨⟨hb.os.trans h.1.os, hb.tape.trans h.1.tape, hb.output.trans h.1.output, Nat.le_trans h.1.size hb.size, fun i hi hne => (hb.block i (Nat.lt_of_lt_of_le hi h.1.size)).trans (h.1.block i hi hne)⟩, h.2.1.kept fun k hk => hb.block k (by have := h.2.1.lt; omega), fun A e => ⟨(h.2.2 A e).1, (h.2.2 A e).2.below hb⟩⟩
theorem Sp.boxAt {w0 w : World} {b c A : Nat} (h : Sp w0 b c (some A) w) : Box w A (.int .i64 0) (.slice none 0 0) := (h.2.2 A rfl).2
theorem Sp.ended {w0 w w6 : World} {b c A : Nat} (h : Sp w0 b c (some A) w) (hb : b < w0.heap.size) (hg : w.grownBy w6 (some A)) : w0.grownBy w6 (some b) ∧ Rd w6 b c :=
  ⟨grown_own h.1 hg (fun q hq => by cases hq; exact (h.2.2 A rfl).1), h.2.1.grown hg (fun q hq => by cases hq; have := (h.2.2 A rfl).1; omega)⟩
theorem Sp.ended0 {w0 w w6 : World} {b c : Nat} {bo : Option Nat} (h : Sp w0 b c bo w) (hb : Below w.heap.size w w6) : w0.grownBy w6 (some b) ∧ Rd w6 b c := ⟨(h.called hb).1, (h.called hb).2.1⟩
/-- what is handed back of a claim that was drawn -/
theorem odd_done {w wf : World} {b c c' : Nat} {p k : Int} {g cap base : Nat} {ms : List (Int × Int)} {a0 b0 : Value} (hb : b < w.heap.size) (hbase : w.heap.size < base) (hx : Box wf w.heap.size a0 b0) (hG : w.grownBy wf (some b)) (hrd : Rd wf b c')
    (ho : wf.ownsRow base TM 2 (.slice (some ⟨g, 0, none⟩) ms.length cap) ms.length (mcells ms)) (hi : I64s ms) (hl : ms.length ≤ 20) (hk1 : -1 ≤ k) (hk4 : k ≤ 4) (hp1 : 1 ≤ p) (hp4 : p ≤ 4) (hc : c' ≤ c) :
    ∃ w6 : World, w6 = (wf.setCell ⟨w.heap.size, 0, none⟩ (.int .i64 k)).setCell ⟨w.heap.size, 1, none⟩ (.slice (some ⟨g, 0, none⟩) ms.length cap) ∧ Box w6 w.heap.size (.int .i64 k) (.slice (some ⟨g, 0, none⟩) ms.length cap) ∧
      DrewPC b c w (.returned (.tuple #[.int .i64 p, .agg #[.int .i64 k, .slice (some ⟨g, 0, none⟩) ms.length cap]])) w6 := by
  obtain ⟨w6, e6, h6, g6⟩ := hx.set (.int .i64 k) (.slice (some ⟨g, 0, none⟩) ms.length cap)
  exact ⟨w6, e6, h6, p, k, g, cap, ms, hp1, hp4, rfl, own_mono (own_row ho g6 hbase) (by omega), hi, hl, hk1, hk4, (hrd.grown g6 (fun q hq => by cases hq; exact hb)).mono hc, grown_own hG g6 (fun q hq => by cases hq; exact Nat.le_refl _)⟩
theorem DrewPC.drew {b c : Nat} {w w' : World} {e : Ending} (h : DrewPC b c w e w') : DrewPC b c w e w'.drew := by
  obtain ⟨p, k, g, cap, ms, h1, h2, h3, h4, h5, h6, h7, h8, h9, h10⟩ := h
  exact ⟨p, k, g, cap, ms, h1, h2, h3, h4, h5, h6, h7, h8, h9, grownBy_drewN h10 1⟩
theorem kind_all (p k : Int) : (∀ t, kindOk p k k t = true) ∨ (∀ t, kindOk p k k t = false) := by
  cases h : kindOk p k k true with
  | true =>
    left; intro t
    exact kind_ok.2 (kind_ok.1 h)
  | false =>
    right; intro t
    cases h2 : kindOk p k k t with
    | false => rfl
    | true => rw [kind_ok.2 (kind_ok.1 h2)] at h; cases h
theorem kind_says {p k : Int} {t : Bool} (h : kindOk p k k t = true) : (kindV p k k t).1 = k ∧ 0 < (kindV p k k t).2.length ∧ (kindV p k k t).2.length ≤ 2 ∧ I64s (kindV p k k t).2 := by
  obtain ⟨h1, h4, h5, h6, _, _⟩ := kind_ok.1 h
  rw [(kindV_yes h).2]
  unfold kindL
  have e0 : I64 0 := I64_small (by omega) (by omega)
  have e2 : I64 2 := I64_small (by omega) (by omega)
  have ek : I64 k := I64_small (by omega) (by omega)
  cases t with
  | true => exact ⟨rfl, by simp, by simp, I64s_one e0 ek⟩
  | false => exact ⟨rfl, by simp, by simp, I64s_two e0 ek e2 e0⟩
attribute [local irreducible] holds tabN tabV holdsV sameV followsV alwaysV matterV claimOk mayT mayV ctabV ctabN storyV storyOk storyN storyT ctermV ctermL sayV neverV alwsV nestOk nestV kindOk kindV mcells
theorem sp_pick {w0 w : World} {b c : Nat} {bo : Option Nat} (h : Sp w0 b c bo w) (hb : b < w0.heap.size) (hc : c ≤ 100000000) :
    Calls Try.prog 69 #[.pointer (some ⟨b, 0, none⟩), .int .i64 2] w fun e w' => ∃ y : Int, e = .returned (.int .i64 y) ∧ Sp w0 b (c + 1) bo w' := by
  refine (pick 2 b c _ h.2.1 (by omega) (by omega) (by omega)).mono ?_
  rintro e w' ⟨y, _, _, rfl, hrd, hg⟩
  exact ⟨y, rfl, h.read hb hg hrd⟩
theorem sp_kind1 {w0 w : World} {b c : Nat} {bo : Option Nat} {p k : Int} {t o : Bool} (ho : o = true) (hko : ∀ t, kindOk p k k t = true) (hk1 : -1 ≤ k) (hk4 : k ≤ 4) (h : Sp w0 b c bo w) :
    Calls Try.prog 39 #[.int .i64 p, .int .i64 k, .int .i64 k, .bool t] w fun e w' => ∃ (kk : Int) (xs : List (Int × Int)) (a5 : Option Addr) (c5 : Nat), e = .returned (.tuple #[.agg #[.int .i64 kk, .slice a5 xs.length c5], .bool o]) ∧ w'.ownsRow w0.heap.size TM 2 (.slice a5 xs.length c5) xs.length (mcells xs) ∧ Sp w0 b c bo w' ∧ (∀ A, bo = some A → (Value.slice a5 xs.length c5).ownBlock ≠ some A) ∧ kk = k ∧ 0 < xs.length ∧ xs.length ≤ 2 ∧ I64s xs := by
  refine (specKindClaim p k k t (I64_small (by omega) (by omega)) w).mono ?_
  rintro e w' ⟨v, rfl, hown, hb⟩
  obtain ⟨h1, h2, h3, h4⟩ := kind_says (hko t)
  obtain ⟨a5, c5, rfl⟩ := own_len hown
  refine ⟨_, _, a5, c5, by rw [hko t, ho], own_mono hown h.1.size, h.called hb, fun A e e2 => ?_, h1, h2, h3, h4⟩
  have := (hown.lt A e2).1
  have := (h.2.2 A e).2.2.2.2.2
  omega
theorem sp_kind0 {w0 w : World} {b c : Nat} {bo : Option Nat} {p k : Int} {t o : Bool} (ho : o = false) (hko : ∀ t, kindOk p k k t = false) (hk1 : -1 ≤ k) (hk4 : k ≤ 4) (h : Sp w0 b c bo w) :
    Calls Try.prog 39 #[.int .i64 p, .int .i64 k, .int .i64 k, .bool t] w fun e w' => ∃ (kk : Int) (xs : List (Int × Int)) (a5 : Option Addr) (c5 : Nat), e = .returned (.tuple #[.agg #[.int .i64 kk, .slice a5 xs.length c5], .bool o]) ∧ w'.ownsRow w0.heap.size TM 2 (.slice a5 xs.length c5) xs.length (mcells xs) ∧ Sp w0 b c bo w' ∧ (∀ A, bo = some A → (Value.slice a5 xs.length c5).ownBlock ≠ some A) := by
  refine (specKindClaim p k k t (I64_small (by omega) (by omega)) w).mono ?_
  rintro e w' ⟨v, rfl, hown, hb⟩
  obtain ⟨a5, c5, rfl⟩ := own_len hown
  refine ⟨_, _, a5, c5, by rw [hko t, ho], own_mono hown h.1.size, h.called hb, fun A e e2 => ?_⟩
  have := (hown.lt A e2).1
  have := (h.2.2 A e).2.2.2.2.2
  omega
end Go.Proofs.Ytpccldbcmanhdaa

/- An append of marks in the midst of a region that draws its order: what lies already, and one step. -/
import Derived.Test.YtobbbmcppmohoaaDrawP
import Derived.Maps.AppendAt
import Derived.Laws.Rows
import Derived.Deep.AppendLies
namespace Go.Proofs.Ytobbbmcppmohoaa
open Go.RowKit Go.Joins
/-- in the midst of a region that draws its order: the row of its own that it grows, and, if they lie already (block 'at'), the marks that it will append last -/
def Have (w0 : World) (at_ : Option Nat) (ns : List Value) (w : World) (v : Value) (n : Nat) (cs : List Value) : Prop :=
  w0.grownBy w none ∧ w.ownsRow w0.heap.size TM 2 v n cs ∧ ∀ b, at_ = some b → w0.heap.size ≤ b ∧ b < w.heap.size ∧ v.ownBlock ≠ some b ∧ ∀ (j : Nat) (u : Value), ns[j]? = some u → w.cell? ((⟨b, 0, none⟩ : Addr).add j) = some u
theorem Have.start (w0 : World) (ns : List Value) : Have w0 none ns (w0.alloc (.cells #[] TM)) (.slice (some ⟨w0.heap.size, 0, none⟩) 0 0) 0 [] :=
  ⟨only_alloc (World.grownBy.refl _ _) _, World.ownsRow_made w0 #[] 0 (Nat.le_refl _) (Nat.zero_le _) rfl, fun b hb => by cases hb⟩
theorem Have.lay {w0 w : World} {ns : List Value} {v : Value} {n : Nat} {cs : List Value} (h : Have w0 none ns w v n cs) (o : Obj) (hn : ∀ (j : Nat) (u : Value), ns[j]? = some u → (w.alloc o).cell? ((⟨w.heap.size, 0, none⟩ : Addr).add j) = some u) :
    Have w0 (some w.heap.size) ns (w.alloc o) v n cs := by
  refine ⟨only_alloc h.1 _, h.2.1.alloc _, fun b hb => ?_⟩
  cases hb
  refine ⟨h.1.size, by simp, fun e => ?_, hn⟩
  have := (h.2.1.lt _ e).2
  omega
theorem Have.laid_next (w0 : World) (ns : List Value) (o : Obj) (hn : ∀ (j : Nat) (u : Value), ns[j]? = some u → ((w0.alloc (.cells #[] TM)).alloc o).cell? ((⟨(w0.alloc (.cells #[] TM)).heap.size, 0, none⟩ : Addr).add j) = some u) :
    Have w0 (some (w0.heap.size + 1)) ns ((w0.alloc (.cells #[] TM)).alloc o) (.slice (some ⟨w0.heap.size, 0, none⟩) 0 0) 0 [] := by
  have h := (Have.start w0 ns).lay o hn
  have e : (w0.alloc (.cells #[] TM)).heap.size = w0.heap.size + 1 := by simp
  rw [e] at h
  exact h
theorem Have.laid_first (w0 : World) (ns : List Value) (o : Obj) (hn : ∀ (j : Nat) (u : Value), ns[j]? = some u → (w0.alloc o).cell? ((⟨w0.heap.size, 0, none⟩ : Addr).add j) = some u) :
    Have w0 (some w0.heap.size) ns ((w0.alloc o).alloc (.cells #[] TM)) (.slice (some ⟨w0.heap.size + 1, 0, none⟩) 0 0) 0 [] := by
  have h := World.ownsRow_made (base := w0.heap.size) (size := 2) (e := TM) (w0.alloc o) #[] 0 (by simp) (Nat.zero_le _) rfl
  have e : (w0.alloc o).heap.size = w0.heap.size + 1 := by simp
  rw [e] at h
  refine ⟨only_alloc (only_alloc (World.grownBy.refl _ _) _) _, h, fun b hb => ?_⟩
  cases hb
  refine ⟨Nat.le_refl _, by simp; omega, fun e => by simp [Value.ownBlock] at e, cells_alloc hn (by simp) _⟩
theorem Have.drewN {w0 w : World} {at_ : Option Nat} {ns : List Value} {v : Value} {n : Nat} {cs : List Value} (h : Have w0 at_ ns w v n cs) (k : Nat) : Have w0 at_ ns (w.drewN k) v n cs :=
  ⟨grownBy_drewN h.1 k, h.2.1, h.2.2⟩
theorem Have.drew {w0 w : World} {at_ : Option Nat} {ns : List Value} {v : Value} {n : Nat} {cs : List Value} (h : Have w0 at_ ns w v n cs) : Have w0 at_ ns w.drew v n cs := h.drewN 1
/-- an append of what came in -/
theorem app_keep {P : Program} {ops : Array Oper} {o : Oper} {a : Act} {w : World} {K : Act → World → Prop} {Q : Exit → Act → World → Prop} {E : Prop} {im : TypeInfo} (hgd : o.guard = none) (s x : Operand) (t : TypeId)
    (ho : o.op = .call { callee := .builtin .append, args := #[s, x], argTypes := #[t, t] }) (ht : P.underlying t = some (.slice TM)) (hi : P.info? TM = some im) (hz : im.zero = some (.agg #[.int .i64 0, .int .i64 0])) (hsize : im.size = 2) (hby : im.bytes = 16)
    {w0 : World} {at_ : Option Nat} {ns : List Value} {v : Value} {n : Nat} {cs : List Value} (h : Have w0 at_ ns w v n cs) (hs : a.eval s = v)
    {g m c base : Nat} {ms : List (Int × Int)} (hx : a.eval x = .slice (some ⟨g, 0, none⟩) m c) (hm : ms.length = m) (hsrc : w0.ownsRow base TM 2 (.slice (some ⟨g, 0, none⟩) m c) m (mcells ms)) (hl : n + m ≤ 1000000)
    (hK : ∀ v' w', Have w0 at_ ns w' v' (n + m) (cs ++ mcells ms) → K (a.put o.dst v') w') : if Region.wanted o (yielded ops a.tmps) = true then Oper.wp P o a w K Q else E := by
  have hw : Region.wanted o (yielded ops a.tmps) = true := by simp [Region.wanted, hgd]
  rw [if_pos hw]
  obtain ⟨hG, hown, hN⟩ := h
  obtain ⟨v', w', hr, h2, h3, _, h5⟩ := run_append_own_at (P := P) w w0.heap.size t o.type TM im (.agg #[.int .i64 0, .int .i64 0]) 2 16 ht hi hz hsize hby rfl (by omega) v n cs hown ⟨g, 0, none⟩ m c (mcells ms) (by rw [mcells_length, hm]) ((own_none hsrc hG).cells (g := g) rfl) (mcells_one _) (by unfold maxLen; omega) (by omega) hG.size
  unfold Oper.wp execOp
  simp only [ho, resolve, invoke, builtin, Sem.run_bind, Sem.run_pure, Result.andThen_ok, List.map_toArray, List.map_cons, List.map_nil, hs, hx, hr]
  refine hK v' w' ⟨grown_own hG h3 (fun k hk => (hown.lt k hk).1), h2, fun b hb => ?_⟩
  obtain ⟨h6, h7, h8, h9⟩ := hN b hb
  refine ⟨h6, by have := h3.size; omega, fun e => ?_, fun j u hj => ?_⟩
  · rcases h5 with h5 | h5
    · exact h8 (by rw [← h5]; exact e)
    · rw [h5] at e; cases e; omega
  · exact (h3.cell_far ((⟨b, 0, none⟩ : Addr).add j) (by rw [block_add]; exact h7) (by rw [block_add]; exact fun e => h8 e.symm)).trans (h9 j u hj)
/-- the append of the marks -/
theorem app_last {P : Program} {ops : Array Oper} {o : Oper} {a : Act} {w : World} {K : Act → World → Prop} {Q : Exit → Act → World → Prop} {E : Prop} {im : TypeInfo} (hgd : o.guard = none) (s x : Operand) (t : TypeId)
    (ho : o.op = .call { callee := .builtin .append, args := #[s, x], argTypes := #[t, t] }) (ht : P.underlying t = some (.slice TM)) (hi : P.info? TM = some im) (hz : im.zero = some (.agg #[.int .i64 0, .int .i64 0])) (hsize : im.size = 2) (hby : im.bytes = 16)
    {w0 : World} {b m c : Nat} {ns : List (Int × Int)} {v : Value} {n : Nat} {cs : List Value} (h : Have w0 (some b) (mcells ns) w v n cs) (hs : a.eval s = v)
    (hx : a.eval x = .slice (some ⟨b, 0, none⟩) m c) (hm : ns.length = m) (hl : n + m ≤ 1000000)
    (hK : ∀ v' w', w0.grownBy w' none → w'.ownsRow w0.heap.size TM 2 v' (n + m) (cs ++ mcells ns) → K (a.put o.dst v') w') : if Region.wanted o (yielded ops a.tmps) = true then Oper.wp P o a w K Q else E := by
  have hw : Region.wanted o (yielded ops a.tmps) = true := by simp [Region.wanted, hgd]
  rw [if_pos hw]
  obtain ⟨hG, hown, hN⟩ := h
  obtain ⟨_, _, _, h9⟩ := hN b rfl
  obtain ⟨v', w', hr, h2, h3, _, _⟩ := run_append_own_at (P := P) w w0.heap.size t o.type TM im (.agg #[.int .i64 0, .int .i64 0]) 2 16 ht hi hz hsize hby rfl (by omega) v n cs hown ⟨b, 0, none⟩ m c (mcells ns) (by rw [mcells_length, hm]) h9 (mcells_one _) (by unfold maxLen; omega) (by omega) hG.size
  unfold Oper.wp execOp
  simp only [ho, resolve, invoke, builtin, Sem.run_bind, Sem.run_pure, Result.andThen_ok, List.map_toArray, List.map_cons, List.map_nil, hs, hx, hr]
  exact hK v' w' (grown_own hG h3 (fun k hk => (hown.lt k hk).1)) h2
end Go.Proofs.Ytobbbmcppmohoaa

/- Texts of a proof, merged: OneA, ConcatK. -/
import Derived.Test.YthiabicleedleaaOneU
import Derived.Test.YthiabicleedleaaMerged11
import Derived.Deep.AppendLies
/- Appends of stories: a story that is read, one claim more, in any order. -/
namespace Go.Proofs.Ythiabicleedleaa
open Go.RowKit Go.Joins
abbrev TQ : TypeId := 26
/-- an append of claims that are read, wherever they lie -/
theorem append_story {w : World} {base B n : Nat} {ty : TypeId} {v u : Value} {cs : List Value} {qs : List QC} {ic : TypeInfo} (hci : Try.prog.info? TC = some ic) (hz : ic.zero = some (.agg #[.int .i64 0, .slice none 0 0])) (hsize : ic.size = 2) (hby : ic.bytes = 32)
    (hown : w.ownsRow base TC 2 v n cs) (hr : RdStory w B u qs) (hl : n + qs.length ≤ 1000000) (hbase : base ≤ w.heap.size) :
    ∃ v' w', (Builtin.append_ #[TQ, TQ] ty #[v, u]).run Try.prog w = .ok v' w' ∧ w'.ownsRow base TC 2 v' (n + qs.length) (cs ++ ccells qs) ∧ w.grownBy w' v.ownBlock ∧ (v'.ownBlock = v.ownBlock ∨ v'.ownBlock = some w.heap.size) := by
  have hr0 := hr
  have h1 := hr.one
  obtain ⟨ao, cap, rfl, hlc, hcm, hi, hc⟩ := hr
  cases ao with
  | none =>
    have h0 : qs = [] := by
      cases qs with
      | nil => rfl
      | cons m r =>
        obtain ⟨_, _, he, _⟩ := hc 0 (by simp)
        cases he
    subst h0
    refine ⟨v, w, run_append_own_none w base TQ ty TC ic 2 Try.underlying26 hci hsize v n cs hown cap (by unfold maxLen; omega), by simpa [ccells] using hown, World.grownBy.refl _ _, .inl rfl⟩
  | some a =>
    have hnews : ∀ (j : Nat) (x : Value), (ccells qs)[j]? = some x → w.cell? (a.add j) = some x := by
      cases qs with
      | nil => intro j x hj; simp [ccells] at hj
      | cons m r =>
        obtain ⟨b, off, he, _⟩ := hc 0 (by simp)
        cases he
        exact hr0.cells
    obtain ⟨v', w', h1, h2, h3, _, h5⟩ := run_append_own_at (P := Try.prog) w base TQ ty TC ic (.agg #[.int .i64 0, .slice none 0 0]) 2 32 Try.underlying26 hci hz hsize hby rfl (by omega) v n cs hown a qs.length cap (ccells qs) (ccells_length _) hnews h1 (by unfold maxLen; omega) (by omega) hbase
    exact ⟨v', w', h1, h2, h3, h5⟩
theorem wpList_append_story {ops : Array Oper} {rest : List Oper} {o : Oper} {a : Act} {w : World} {Q : Exit → Act → World → Prop} {ic : TypeInfo} (hgd : o.guard = none) (s x : Operand)
    (ho : o.op = .call { callee := .builtin .append, args := #[s, x], argTypes := #[TQ, TQ] }) (hci : Try.prog.info? TC = some ic) (hz : ic.zero = some (.agg #[.int .i64 0, .slice none 0 0])) (hsize : ic.size = 2) (hby : ic.bytes = 32)
    {base B n : Nat} {v u : Value} {cs : List Value} {qs : List QC} (hs : a.eval s = v) (hx : a.eval x = u) (hown : w.ownsRow base TC 2 v n cs) (hr : RdStory w B u qs) (hl : n + qs.length ≤ 1000000) (hbase : base ≤ w.heap.size)
    (h : ∀ v' w', w'.ownsRow base TC 2 v' (n + qs.length) (cs ++ ccells qs) → w.grownBy w' v.ownBlock → (v'.ownBlock = v.ownBlock ∨ v'.ownBlock = some w.heap.size) → wpList Try.prog ops Q rest (a.put o.dst v') w') : wpList Try.prog ops Q (o :: rest) a w := by
  refine wpList_plain hgd fun K hK => ?_
  obtain ⟨v', w', hr, h2, h3, h5⟩ := append_story (ty := o.type) hci hz hsize hby hown hr hl hbase
  unfold Oper.wp execOp
  simp only [ho, resolve, invoke, builtin, Sem.run_bind, Sem.run_pure, Result.andThen_ok, List.map_toArray, List.map_cons, List.map_nil, hs, hx, hr]
  exact hK _ _ (h v' w' h2 h3 h5)
/-- in the midst of a region that draws its order: the row of its own that it grows, and, if they lie already (block 'at'), the claim that it will append last -/
def HaveS (w0 : World) (at_ : Option Nat) (ns : List Value) (w : World) (v : Value) (n : Nat) (cs : List Value) : Prop :=
  w0.grownBy w none ∧ w.ownsRow w0.heap.size TC 2 v n cs ∧ ∀ b, at_ = some b → w0.heap.size ≤ b ∧ b < w.heap.size ∧ v.ownBlock ≠ some b ∧ ∀ (j : Nat) (u : Value), ns[j]? = some u → w.cell? ((⟨b, 0, none⟩ : Addr).add j) = some u
theorem HaveS.start (w0 : World) (ns : List Value) : HaveS w0 none ns (w0.alloc (.cells #[] TC)) (.slice (some ⟨w0.heap.size, 0, none⟩) 0 0) 0 [] :=
  ⟨only_alloc (World.grownBy.refl _ _) _, World.ownsRow_made w0 #[] 0 (Nat.le_refl _) (Nat.zero_le _) rfl, fun b hb => by cases hb⟩
theorem HaveS.lay {w0 w : World} {ns : List Value} {v : Value} {n : Nat} {cs : List Value} (h : HaveS w0 none ns w v n cs) (o : Obj) (hn : ∀ (j : Nat) (u : Value), ns[j]? = some u → (w.alloc o).cell? ((⟨w.heap.size, 0, none⟩ : Addr).add j) = some u) :
    HaveS w0 (some w.heap.size) ns (w.alloc o) v n cs := by
  refine ⟨only_alloc h.1 _, h.2.1.alloc _, fun b hb => ?_⟩
  cases hb
  refine ⟨h.1.size, by simp, fun e => ?_, hn⟩
  have := (h.2.1.lt _ e).2
  omega
theorem HaveS.laid_next (w0 : World) (ns : List Value) (o : Obj) (hn : ∀ (j : Nat) (u : Value), ns[j]? = some u → ((w0.alloc (.cells #[] TC)).alloc o).cell? ((⟨(w0.alloc (.cells #[] TC)).heap.size, 0, none⟩ : Addr).add j) = some u) :
    HaveS w0 (some (w0.heap.size + 1)) ns ((w0.alloc (.cells #[] TC)).alloc o) (.slice (some ⟨w0.heap.size, 0, none⟩) 0 0) 0 [] := by
  have h := (HaveS.start w0 ns).lay o hn
  have e : (w0.alloc (.cells #[] TC)).heap.size = w0.heap.size + 1 := by simp
  rw [e] at h
  exact h
theorem HaveS.laid_first (w0 : World) (ns : List Value) (o : Obj) (hn : ∀ (j : Nat) (u : Value), ns[j]? = some u → (w0.alloc o).cell? ((⟨w0.heap.size, 0, none⟩ : Addr).add j) = some u) :
    HaveS w0 (some w0.heap.size) ns ((w0.alloc o).alloc (.cells #[] TC)) (.slice (some ⟨w0.heap.size + 1, 0, none⟩) 0 0) 0 [] := by
  have h := World.ownsRow_made (base := w0.heap.size) (size := 2) (e := TC) (w0.alloc o) #[] 0 (by simp) (Nat.zero_le _) rfl
  have e : (w0.alloc o).heap.size = w0.heap.size + 1 := by simp
  rw [e] at h
  refine ⟨only_alloc (only_alloc (World.grownBy.refl _ _) _) _, h, fun b hb => ?_⟩
  cases hb
  refine ⟨Nat.le_refl _, by simp; omega, fun e => by simp [Value.ownBlock] at e, cells_alloc hn (by simp) _⟩
theorem HaveS.drewN {w0 w : World} {at_ : Option Nat} {ns : List Value} {v : Value} {n : Nat} {cs : List Value} (h : HaveS w0 at_ ns w v n cs) (k : Nat) : HaveS w0 at_ ns (w.drewN k) v n cs :=
  ⟨grownBy_drewN h.1 k, h.2.1, h.2.2⟩
theorem HaveS.drew {w0 w : World} {at_ : Option Nat} {ns : List Value} {v : Value} {n : Nat} {cs : List Value} (h : HaveS w0 at_ ns w v n cs) : HaveS w0 at_ ns w.drew v n cs := h.drewN 1
/-- an append of the claims that came in -/
theorem app_keepS {ops : Array Oper} {o : Oper} {a : Act} {w : World} {K : Act → World → Prop} {Q : Exit → Act → World → Prop} {E : Prop} {ic : TypeInfo} (hgd : o.guard = none) (s x : Operand)
    (ho : o.op = .call { callee := .builtin .append, args := #[s, x], argTypes := #[TQ, TQ] }) (hci : Try.prog.info? TC = some ic) (hz : ic.zero = some (.agg #[.int .i64 0, .slice none 0 0])) (hsize : ic.size = 2) (hby : ic.bytes = 32)
    {w0 : World} {at_ : Option Nat} {ns : List Value} {v : Value} {n : Nat} {cs : List Value} (h : HaveS w0 at_ ns w v n cs) (hs : a.eval s = v)
    {u : Value} {B : Nat} {qs : List QC} (hx : a.eval x = u) (hr : RdStory w0 B u qs) (hB : B ≤ w0.heap.size) (hl : n + qs.length ≤ 1000000)
    (hK : ∀ v' w', HaveS w0 at_ ns w' v' (n + qs.length) (cs ++ ccells qs) → K (a.put o.dst v') w') : if Region.wanted o (yielded ops a.tmps) = true then Oper.wp Try.prog o a w K Q else E := by
  have hw : Region.wanted o (yielded ops a.tmps) = true := by simp [Region.wanted, hgd]
  rw [if_pos hw]
  obtain ⟨hG, hown, hN⟩ := h
  obtain ⟨v', w', hr, h2, h3, h5⟩ := append_story (ty := o.type) hci hz hsize hby hown (hr.below (w' := w) (fun q hq => hG.block q (by omega) (by simp))) hl hG.size
  unfold Oper.wp execOp
  simp only [ho, resolve, invoke, builtin, Sem.run_bind, Sem.run_pure, Result.andThen_ok, List.map_toArray, List.map_cons, List.map_nil, hs, hx, hr]
  refine hK v' w' ⟨grown_own hG h3 (fun k hk => (hown.lt k hk).1), h2, fun b hb => ?_⟩
  obtain ⟨h6, h7, h8, h9⟩ := hN b hb
  refine ⟨h6, by have := h3.size; omega, fun e => ?_, fun j u hj => ?_⟩
  · rcases h5 with h5 | h5
    · exact h8 (by rw [← h5]; exact e)
    · rw [h5] at e; cases e; omega
  · exact (h3.cell_far ((⟨b, 0, none⟩ : Addr).add j) (by rw [block_add]; exact h7) (by rw [block_add]; exact fun e => h8 e.symm)).trans (h9 j u hj)
/-- the append of the claim -/
theorem app_lastS {ops : Array Oper} {o : Oper} {a : Act} {w : World} {K : Act → World → Prop} {Q : Exit → Act → World → Prop} {E : Prop} {ic : TypeInfo} (hgd : o.guard = none) (s x : Operand)
    (ho : o.op = .call { callee := .builtin .append, args := #[s, x], argTypes := #[TQ, TQ] }) (hci : Try.prog.info? TC = some ic) (hz : ic.zero = some (.agg #[.int .i64 0, .slice none 0 0])) (hsize : ic.size = 2) (hby : ic.bytes = 32)
    {w0 : World} {b c : Nat} {q : QC} {v : Value} {n : Nat} {cs : List Value} (h : HaveS w0 (some b) (ccells [q]) w v n cs) (hs : a.eval s = v)
    (hx : a.eval x = .slice (some ⟨b, 0, none⟩) 1 c) (hq : q.1.oneCell' = true) (hl : n + 1 ≤ 1000000)
    (hK : ∀ v' w', w0.grownBy w' none → w'.ownsRow w0.heap.size TC 2 v' (n + 1) (cs ++ ccells [q]) → K (a.put o.dst v') w') : if Region.wanted o (yielded ops a.tmps) = true then Oper.wp Try.prog o a w K Q else E := by
  have hw : Region.wanted o (yielded ops a.tmps) = true := by simp [Region.wanted, hgd]
  rw [if_pos hw]
  obtain ⟨hG, hown, hN⟩ := h
  obtain ⟨_, _, _, h9⟩ := hN b rfl
  obtain ⟨v', w', hr, h2, h3, _, _⟩ := run_append_own_at (P := Try.prog) w w0.heap.size TQ o.type TC ic (.agg #[.int .i64 0, .slice none 0 0]) 2 32 Try.underlying26 hci hz hsize hby rfl (by omega) v n cs hown ⟨b, 0, none⟩ 1 c (ccells [q]) (ccells_length _) h9 (ccells_one (by simpa using hq)) (by unfold maxLen; omega) (by omega) hG.size
  unfold Oper.wp execOp
  simp only [ho, resolve, invoke, builtin, Sem.run_bind, Sem.run_pure, Result.andThen_ok, List.map_toArray, List.map_cons, List.map_nil, hs, hx, hr]
  exact hK v' w' (grown_own hG h3 (fun k hk => (hown.lt k hk).1)) h2
/-- a story of which the rows lie below, with one claim more -/
theorem rdStory_more {w w' : World} {base : Nat} {v v' : Value} {qs : List QC} {q : QC} (hr : RdStory w w.heap.size v qs) (hb : Below w.heap.size w w') (hq : RdMarks w' w'.heap.size q.1 q.2.2 ∧ I64 q.2.1) (ho : w'.ownsRow base TC 2 v' (qs.length + 1) (ccells qs ++ ccells [q])) : RdStory w' w'.heap.size v' (qs ++ [q]) := by
  refine rdStory_own (by rw [ccells_append]; exact ho) (by simp) (fun r hr' => ?_)
  rcases List.mem_append.1 hr' with h | h
  · exact ⟨((hr.marks r h).1.below hb.block).mono hb.size, (hr.marks r h).2⟩
  · simp at h; subst h; exact hq
theorem map_more (qs : List QC) (q : QC) : (qs ++ [q]).map (·.2) = qs.map (·.2) ++ [q.2] := by simp
end Go.Proofs.Ythiabicleedleaa
/- slices.Grow of the nil slice and slices.Concat, at rows of claims: a new row of all claims, one part after the other. -/
namespace Go.Proofs.Ythiabicleedleaa
open Go.RowKit Go.Joins
/-- what a call hands back that returns a row of claims of its own -/
def RowOutK (qs : List QC) (w : World) (e : Ending) (w' : World) : Prop := ∃ v, e = .returned v ∧ w'.ownsRow w.heap.size TC 2 v qs.length (ccells qs) ∧ Below w.heap.size w w'
abbrev PK := Value × List QC
def pk0 : PK := (.slice none 0 0, [])
def totK (ps : List PK) : Nat := (ps.map (·.2.length)).sum
theorem totK_snoc (ps : List PK) (q : PK) : totK (ps ++ [q]) = totK ps + q.2.length := by simp [totK]
/-! ### the parts -/
def flatK (ps : List PK) : List QC := ps.flatMap (·.2)
theorem pk_at {ps : List PK} {j : Nat} (hj : j < ps.length) : ps.getD j pk0 = ps[j] := by simp [List.getD, hj]
theorem flatK_take {ps : List PK} {j : Nat} (hj : j < ps.length) : flatK (ps.take (j + 1)) = flatK (ps.take j) ++ (ps.getD j pk0).2 := by
  rw [pk_at hj, List.take_succ_eq_append_getElem hj]
  unfold flatK
  rw [List.flatMap_append, List.flatMap_singleton]
theorem totK_take {ps : List PK} {j : Nat} (hj : j < ps.length) : totK (ps.take (j + 1)) = totK (ps.take j) + (ps.getD j pk0).2.length := by
  rw [pk_at hj, List.take_succ_eq_append_getElem hj, totK_snoc]
theorem totK_take_le (ps : List PK) (j : Nat) : totK (ps.take j) ≤ totK ps := by
  conv => rhs; rw [← List.take_append_drop j ps]
  unfold totK
  rw [List.map_append, List.sum_append]
  exact Nat.le_add_right _ _
theorem flatK_length (ps : List PK) : (flatK ps).length = totK ps := by
  simp [flatK, totK, List.length_flatMap]
/-- a row of parts, in block g, each of which reads as marks below B -/
def PartsAtK (w : World) (g B : Nat) (ps : List PK) : Prop := ∀ j, j < ps.length → w.cell? ⟨g, j, none⟩ = some (ps.getD j pk0).1 ∧ RdStory w B (ps.getD j pk0).1 (ps.getD j pk0).2
theorem PartsAtK.below {w w' : World} {g B : Nat} {ps : List PK} (h : PartsAtK w g B ps) (hB : B ≤ w.heap.size) (hg : g < w.heap.size) (hb : ∀ k, k < w.heap.size → w'.heap[k]? = w.heap[k]?) : PartsAtK w' g B ps := fun j hj =>
  ⟨by rw [← (h j hj).1]; exact World.cell?_of_block (w := w) (hb g hg), (h j hj).2.below fun k hk => hb k (by omega)⟩
end Go.Proofs.Ythiabicleedleaa

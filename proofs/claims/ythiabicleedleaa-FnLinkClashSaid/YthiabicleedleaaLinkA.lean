/- Appends of links: links that are read, one more, in any order. -/
import Derived.Test.YthiabicleedleaaMerged19
import Derived.Test.YthiabicleedleaaMerged11
import Derived.Deep.AppendLies
namespace Go.Proofs.Ythiabicleedleaa
open Go.RowKit Go.Joins
theorem RdLinks.cells {w : World} {B b off n cap : Nat} {ls : List Lk} (h : RdLinks w B (.slice (some ⟨b, off, none⟩) n cap) ls) : ∀ (j : Nat) (u : Value), (lcells ls)[j]? = some u → w.cell? ((⟨b, off, none⟩ : Addr).add j) = some u := by
  intro j u hj
  obtain ⟨ao, cap', hv, hl, _, _, hc⟩ := h
  cases hv
  have hlt : j < ls.length * 3 := by
    rw [← lcells_length]
    exact (List.getElem?_eq_some_iff.1 hj).1
  obtain ⟨b', off', he, _, h1, h2, h3⟩ := hc (j / 3) (by omega)
  cases he
  obtain ⟨g1, g2, g3⟩ := lcells_get ls (j / 3) (by omega)
  have e : (⟨b, off, none⟩ : Addr).add j = ⟨b, off + j, none⟩ := by simp [Addr.add]
  rw [e]
  have hm : j % 3 = 0 ∨ j % 3 = 1 ∨ j % 3 = 2 := by omega
  rcases hm with hm | hm | hm
  · have ej : j = j / 3 * 3 := by omega
    rw [ej] at hj ⊢
    rw [g1] at hj
    rw [h1]; exact hj
  · have ej : j = j / 3 * 3 + 1 := by omega
    rw [ej] at hj ⊢
    rw [g2] at hj
    rw [← Nat.add_assoc, h2]; exact hj
  · have ej : j = j / 3 * 3 + 2 := by omega
    rw [ej] at hj ⊢
    rw [g3] at hj
    rw [← Nat.add_assoc, h3]; exact hj
/-- an append of links that are read, wherever they lie -/
theorem append_links {w : World} {base B n : Nat} {ty : TypeId} {v u : Value} {cs : List Value} {ls : List Lk} {ic : TypeInfo} (hci : Try.prog.info? TL = some ic) (hz : ic.zero = some (.agg #[.int .i64 0, .int .i64 0, .bool false])) (hsize : ic.size = 3) (hby : ic.bytes = 24)
    (hown : w.ownsRow base TL 3 v n cs) (hr : RdLinks w B u ls) (hl : n + ls.length ≤ 1000000) (hbase : base ≤ w.heap.size) :
    ∃ v' w', (Builtin.append_ #[TLs, TLs] ty #[v, u]).run Try.prog w = .ok v' w' ∧ w'.ownsRow base TL 3 v' (n + ls.length) (cs ++ lcells ls) ∧ w.grownBy w' v.ownBlock ∧ (v'.ownBlock = v.ownBlock ∨ v'.ownBlock = some w.heap.size) := by
  have hr0 := hr
  have h1 := lcells_one ls
  obtain ⟨ao, cap, rfl, hlc, hcm, hi, hc⟩ := hr
  cases ao with
  | none =>
    have h0 : ls = [] := by
      cases ls with
      | nil => rfl
      | cons m r =>
        obtain ⟨_, _, he, _⟩ := hc 0 (by simp)
        cases he
    subst h0
    refine ⟨v, w, run_append_own_none w base TLs ty TL ic 3 Try.underlying43 hci hsize v n cs hown cap (by unfold maxLen; omega), by simpa [lcells] using hown, World.grownBy.refl _ _, .inl rfl⟩
  | some a =>
    have hnews : ∀ (j : Nat) (x : Value), (lcells ls)[j]? = some x → w.cell? (a.add j) = some x := by
      cases ls with
      | nil => intro j x hj; simp [lcells] at hj
      | cons m r =>
        obtain ⟨b, off, he, _⟩ := hc 0 (by simp)
        cases he
        exact hr0.cells
    obtain ⟨v', w', h1, h2, h3, _, h5⟩ := run_append_own_at (P := Try.prog) w base TLs ty TL ic (.agg #[.int .i64 0, .int .i64 0, .bool false]) 3 24 Try.underlying43 hci hz hsize hby rfl (by omega) v n cs hown a ls.length cap (lcells ls) (lcells_length _) hnews h1 (by unfold maxLen; omega) (by omega) hbase
    exact ⟨v', w', h1, h2, h3, h5⟩
theorem wpList_append_links {ops : Array Oper} {rest : List Oper} {o : Oper} {a : Act} {w : World} {Q : Exit → Act → World → Prop} {ic : TypeInfo} (hgd : o.guard = none) (s x : Operand)
    (ho : o.op = .call { callee := .builtin .append, args := #[s, x], argTypes := #[TLs, TLs] }) (hci : Try.prog.info? TL = some ic) (hz : ic.zero = some (.agg #[.int .i64 0, .int .i64 0, .bool false])) (hsize : ic.size = 3) (hby : ic.bytes = 24)
    {base B n : Nat} {v u : Value} {cs : List Value} {ls : List Lk} (hs : a.eval s = v) (hx : a.eval x = u) (hown : w.ownsRow base TL 3 v n cs) (hr : RdLinks w B u ls) (hl : n + ls.length ≤ 1000000) (hbase : base ≤ w.heap.size)
    (h : ∀ v' w', w'.ownsRow base TL 3 v' (n + ls.length) (cs ++ lcells ls) → w.grownBy w' v.ownBlock → (v'.ownBlock = v.ownBlock ∨ v'.ownBlock = some w.heap.size) → wpList Try.prog ops Q rest (a.put o.dst v') w') : wpList Try.prog ops Q (o :: rest) a w := by
  refine wpList_plain hgd fun K hK => ?_
  obtain ⟨v', w', hr, h2, h3, h5⟩ := append_links (ty := o.type) hci hz hsize hby hown hr hl hbase
  unfold Oper.wp execOp
  simp only [ho, resolve, invoke, builtin, Sem.run_bind, Sem.run_pure, Result.andThen_ok, List.map_toArray, List.map_cons, List.map_nil, hs, hx, hr]
  exact hK _ _ (h v' w' h2 h3 h5)
theorem below_gL {B : Nat} {w w1 w2 : World} {row : Option Nat} (h : Below B w w1) (hg : w1.grownBy w2 row) (hB : B ≤ w1.heap.size) (hr : ∀ k, row = some k → B ≤ k) : Below B w w2 :=
  h.trans ⟨hg.os, hg.tape, hg.output, hg.size, fun i hi => hg.block i (by omega) (fun e => by have := hr i e.symm; omega)⟩
end Go.Proofs.Ythiabicleedleaa

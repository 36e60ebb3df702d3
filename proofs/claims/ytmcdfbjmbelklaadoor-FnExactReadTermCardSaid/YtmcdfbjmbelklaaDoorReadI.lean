/- Contracts of the program's reader of texts: its small methods. -/
import Derived.Test.YtmcdfbjmbelklaaDoorRead
import Derived.Test.YtmcdfbjmbelklaaDoorTextT
namespace Go.Proofs.YtmcdfbjmbelklaaDoor
open Go.RowKit Go.Joins

theorem ext_tail (c : UInt8) (r : List UInt8) : (⟨(c :: r).toArray⟩ : ByteArray).extract 1 (r.length + 1) = ⟨r.toArray⟩ := by
  apply ByteArray.ext
  simp
theorem ext_head (c : UInt8) (r : List UInt8) : (⟨(c :: r).toArray⟩ : ByteArray).extract 0 1 = ⟨[c].toArray⟩ := by
  apply ByteArray.ext
  simp
theorem toList_one (c : UInt8) : (⟨[c].toArray⟩ : ByteArray).toList = [c] := by
  first | rfl | simp | (unfold ByteArray.toList; rfl)
theorem head_toList (c : UInt8) (r : List UInt8) : ((⟨(c :: r).toArray⟩ : ByteArray).extract 0 1).toList = [c] := by rw [ext_head, toList_one]
set_option maxRecDepth 100000 in
set_option maxHeartbeats 1000000 in
theorem cutYes (c : UInt8) (r : List UInt8) (hl : r.length ≤ 1000) (w : World) :
    Calls Tryd.prog 58 #[sv (c :: r), sv [c]] w fun e w' => e = .returned (.tuple #[sv r, .bool true]) ∧ w = w' := by
  have h1 := head_toList c r
  have h2 := ext_tail c r
  go_enter Tryd.func58, Tryd.ntmps58
  go_wp2
  go_ret2
  exact ⟨rfl, rfl⟩
set_option maxRecDepth 100000 in
set_option maxHeartbeats 1000000 in
theorem cutNo (c d : UInt8) (hcd : c ≠ d) (r : List UInt8) (hl : r.length ≤ 1000) (w : World) :
    Calls Tryd.prog 58 #[sv (c :: r), sv [d]] w fun e w' => e = .returned (.tuple #[sv (c :: r), .bool false]) ∧ w = w' := by
  have h1 := head_toList c r
  have h3 : (([c] : List UInt8) == [d]) = false := by simp [hcd]
  go_enter Tryd.func58, Tryd.ntmps58
  go_wp2
  go_ret2
  exact ⟨rfl, rfl⟩
set_option maxRecDepth 100000 in
set_option maxHeartbeats 1000000 in
theorem cutNil (d : UInt8) (w : World) :
    Calls Tryd.prog 58 #[sv [], sv [d]] w fun e w' => e = .returned (.tuple #[sv [], .bool false]) ∧ w = w' := by
  go_enter Tryd.func58, Tryd.ntmps58
  go_wp2
  go_ret2
  exact ⟨rfl, rfl⟩
/-- the reader: what is still to be read stands in block b, and the marks, a row of its own at base or above -/
def RS (w : World) (b base : Nat) (s : List UInt8) (m : List (Int × Int)) : Prop :=
  b < base ∧ b < w.heap.size ∧ w.frozen? ⟨b, 0, none⟩ = false ∧ w.frozen? ⟨b, 1, none⟩ = false ∧ w.cell? ⟨b, 0, none⟩ = some (sv s) ∧ ∃ v, w.cell? ⟨b, 1, none⟩ = some v ∧ w.ownsRow base TM 2 v m.length (mcells m)
theorem RS.store {w : World} {b base : Nat} {s : List UInt8} {m : List (Int × Int)} (h : RS w b base s m) (r : List UInt8) : RS (w.setCell ⟨b, 0, none⟩ (sv r)) b base r m ∧ Below b w (w.setCell ⟨b, 0, none⟩ (sv r)) := by
  obtain ⟨hb, hbs, hf0, hf1, hs, v, hv, hown⟩ := h
  refine ⟨⟨hb, by simpa [World.setCell] using hbs, by rw [World.frozen?_setCell]; exact hf0, by rw [World.frozen?_setCell]; exact hf1, World.cell?_setCell_same' w _ _ (by rw [hs]; rfl), v, ?_, ownsRow_setCell_below hown hb _⟩, ?_⟩
  · go_simp
  · exact ⟨rfl, rfl, rfl, by simp [World.setCell], fun i hi => Below.heap_setCell _ _ _ _ (by simp; omega)⟩
set_option maxRecDepth 100000 in
set_option maxHeartbeats 1000000 in
theorem tookYes (c : UInt8) (r : List UInt8) (hl : r.length ≤ 1000) (b base : Nat) (m : List (Int × Int)) (w : World) (h : RS w b base (c :: r) m) :
    Calls Tryd.prog 54 #[.pointer (some ⟨b, 0, none⟩), sv [c]] w fun e w' => e = .returned (.bool true) ∧ RS w' b base r m ∧ Below b w w' := by
  have Hst := Lib.hid (h.store r)
  obtain ⟨hb, hbs, hf0, hf1, hs, v, hv, hown⟩ := h
  have hcut := cutYes c r hl
  clear hown hf1 hv
  go_enter Tryd.func54, Tryd.ntmps54
  go_wp2_with fail
  refine (hcut _).mono ?_
  rintro e w' ⟨rfl, rfl⟩
  go_wp2
  go_ret
  exact ⟨rfl, Hst.out⟩
set_option maxRecDepth 100000 in
set_option maxHeartbeats 1000000 in
theorem tookNo (d : UInt8) (s : List UInt8) (hs : s.head? ≠ some d) (hl : s.length ≤ 1000) (b base : Nat) (m : List (Int × Int)) (w : World) (h : RS w b base s m) :
    Calls Tryd.prog 54 #[.pointer (some ⟨b, 0, none⟩), sv [d]] w fun e w' => e = .returned (.bool false) ∧ RS w' b base s m ∧ Below b w w' := by
  have Hst := Lib.hid (h.store s)
  have hcut : ∀ w, Calls Tryd.prog 58 #[sv s, sv [d]] w fun e w' => e = .returned (.tuple #[sv s, .bool false]) ∧ w = w' := by
    cases s with
    | nil => exact fun w => cutNil d w
    | cons c r => exact fun w => cutNo c d (fun e => hs (by rw [e]; rfl)) r (by simp at hl; omega) w
  obtain ⟨hb, hbs, hf0, hf1, hs0, v, hv, hown⟩ := h
  clear hown hf1 hv hs
  go_enter Tryd.func54, Tryd.ntmps54
  go_wp2_with fail
  refine (hcut _).mono ?_
  rintro e w' ⟨rfl, rfl⟩
  go_wp2
  go_ret
  exact ⟨rfl, Hst.out⟩
theorem RS.push {w w9 : World} {b base : Nat} {s : List UInt8} {m : List (Int × Int)} {k x : Int} {v9 : Value} (h : RS w b base s m) (_hbase : base ≤ w.heap.size) (hg : w.grownBy w9 none ∨ ∃ r, base ≤ r ∧ w.grownBy w9 (some r)) (hown : w9.ownsRow base TM 2 v9 (m.length + 1) (mcells m ++ mcells [(k, x)])) :
    RS (w9.setCell ⟨b, 1, none⟩ v9) b base s (m ++ [(k, x)]) ∧ Below b w (w9.setCell ⟨b, 1, none⟩ v9) := by
  obtain ⟨hb, hbs, hf0, hf1, hs, v, hv, hown0⟩ := h
  have hsz : w.heap.size ≤ w9.heap.size := by rcases hg with hg | ⟨r, _, hg⟩ <;> exact hg.size
  have hblk : ∀ i, i ≤ b → w9.heap[i]? = w.heap[i]? := fun i hi => by
    rcases hg with hg | ⟨r, hr, hg⟩
    · exact hg.block i (by omega) (by simp)
    · exact hg.block i (by omega) (by intro e; cases e; omega)
  have hbb := hblk b (Nat.le_refl _)
  have e0 : w9.cell? ⟨b, 0, none⟩ = some (sv s) := by rw [← hs]; exact World.cell?_of_block (w := w) hbb
  have e1 : w9.cell? ⟨b, 1, none⟩ = some v := by rw [← hv]; exact World.cell?_of_block (w := w) hbb
  have f0 : w9.frozen? ⟨b, 0, none⟩ = false := by rw [← hf0]; unfold World.frozen?; rw [hbb]
  have f1 : w9.frozen? ⟨b, 1, none⟩ = false := by rw [← hf1]; unfold World.frozen?; rw [hbb]
  refine ⟨⟨hb, by simp [World.setCell]; omega, by rw [World.frozen?_setCell]; exact f0, by rw [World.frozen?_setCell]; exact f1, by go_simp, v9, World.cell?_setCell_same' w9 _ _ (by rw [e1]; rfl), ?_⟩, ?_⟩
  · rw [mcells_append, List.length_append]
    exact ownsRow_setCell_below hown hb _
  · have ho : w9.os = w.os ∧ w9.tape = w.tape ∧ w9.output = w.output := by rcases hg with hg | ⟨r, _, hg⟩ <;> exact ⟨hg.os, hg.tape, hg.output⟩
    exact ⟨ho.1, ho.2.1, ho.2.2, by simp [World.setCell]; omega, fun i hi => (Below.heap_setCell _ _ _ _ (by simp; omega)).trans (hblk i (by omega))⟩
theorem grown_at {w w9 : World} {b base : Nat} (hb : b < base) (hbs : b < w.heap.size) (hg : w.grownBy w9 none ∨ ∃ r, base ≤ r ∧ w.grownBy w9 (some r)) : w9.heap[b]? = w.heap[b]? := by
  rcases hg with hg | ⟨r, hr, hg⟩
  · exact hg.block b hbs (by simp)
  · exact hg.block b hbs (by intro e; cases e; omega)
theorem grown_ways {w w9 : World} {base n size : Nat} {e : TypeId} {v : Value} {xs : List Value} {o : Obj} (hown : w.ownsRow base e size v n xs) (hg : (w.alloc o).grownBy w9 v.ownBlock) : w.grownBy w9 none ∨ ∃ r, base ≤ r ∧ w.grownBy w9 (some r) := by
  have h1 : w.grownBy (w.alloc o) v.ownBlock := only_alloc (World.grownBy.refl _ _) _
  have h2 := grownBy_trans h1 hg
  cases hv : v.ownBlock with
  | none => left; rw [hv] at h2; exact h2
  | some r => right; rw [hv] at h2; exact ⟨r, (hown.lt r hv).1, h2⟩
theorem results_none {fn : Func} (h : fn.results = #[]) (tmps : Array Value) (P : Program) (w : World) : (results fn tmps).run P w = .ok (.tuple #[]) w := by
  simp [results, h]
set_option maxRecDepth 100000 in
set_option maxHeartbeats 1000000 in
theorem putMark (k x : Int) (b base : Nat) (s : List UInt8) (m : List (Int × Int)) (w : World) (hm : m.length ≤ 1000) (hbase : base ≤ w.heap.size) (h : RS w b base s m) :
    Calls Tryd.prog 55 #[.pointer (some ⟨b, 0, none⟩), .int .i64 k, .int .i64 x] w fun e w' => e = .returned (.tuple #[]) ∧ RS w' b base s (m ++ [(k, x)]) ∧ Below b w w' := by
  obtain ⟨im, hmi, hmz0, hmz1, hmz2⟩ := info_parts Tryd.infoM
  have Mi := Lib.hid hmi; clear hmi
  have Mz0 := Lib.hid hmz0; clear hmz0
  have Mz1 := Lib.hid hmz1; clear hmz1
  have Mz2 := Lib.hid hmz2; clear hmz2
  have Hrs := Lib.hid h
  obtain ⟨hb, hbs, hf0, hf1, hs, v, hv, hown⟩ := h
  have Hown := Lib.hid hown; clear hown
  have hne : ¬ b = w.heap.size := by omega
  clear hs hf0
  go_enter Tryd.func55, Tryd.ntmps55
  go_wp2_with (first
    | (at_builtin
       refine wpList_append_own _ rfl (.tmp 10) (.tmp 14) 23 rfl base TM im (.agg #[.int .i64 0, .int .i64 0]) 2 16 Tryd.underlying23 Mi.out Mz0.out Mz1.out Mz2.out rfl (by decide) v m.length (mcells m) rfl (Hown.out.alloc _) ⟨w.heap.size, 0, none⟩ 1 _ (mcells [(k, x)]) rfl rfl (news2 _ _ rfl _ _ _) (mcells_one _) (by unfold maxLen; omega) (by omega) ?_ ?_
       go_must (simp; omega)
       go_must (intro v9 w9 hown9 hgr9 hat9
                obtain ⟨g9, c9, rfl⟩ := ownsRow_form hown9 (by omega)
                have hG := grown_ways Hown.out hgr9
                have hbb := grown_at hb hbs hG
                have e1 : w9.cell? ⟨b, 1, none⟩ = some v := by rw [← hv]; exact World.cell?_of_block (w := w) hbb
                have f1 : w9.frozen? ⟨b, 1, none⟩ = false := by rw [← hf1]; unfold World.frozen?; rw [hbb]
                have Hp := Lib.hid (RS.push Hrs.out hbase hG hown9)
                clear hG hbb hgr9 hown9 hat9 hf1 hv))
    | fail)
  exact bodyPost_end (results_none rfl _ _ _) rfl ⟨rfl, Hp.out⟩
end Go.Proofs.YtmcdfbjmbelklaaDoor

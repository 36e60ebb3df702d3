/- Contracts of the laws' own markers of rows of rows of numbers: numbers in order are written into all of them, and read back. -/
import Derived.Test.YtcppoepdpgeakaaIntRows
import Derived.OwnWalk
namespace Go.Proofs.Ytcppoepdpgeakaa
open Go.RowKit Go.Joins
/-- how many numbers lie ahead of row j -/
def offN (rs : List RW) : Nat → Nat
  | 0 => 0
  | j + 1 => offN rs j + (rs.getD j rw0).2.length
/-- the numbers from k on, so many -/
def runF (k n : Nat) : List Int := (List.range n).map fun j => ((k + j : Nat) : Int)
theorem runF_len (k n : Nat) : (runF k n).length = n := by simp [runF]
/-- the rows up to j are marked -/
def markTo (k0 : Nat) (rs : List RW) (j : Nat) : List RW := (List.range rs.length).map fun i => ((rs.getD i rw0).1, if i < j then runF (k0 + offN rs i) (rs.getD i rw0).2.length else (rs.getD i rw0).2)
theorem markTo_len (k0 : Nat) (rs : List RW) (j : Nat) : (markTo k0 rs j).length = rs.length := by simp [markTo]
theorem markTo_getD {k0 : Nat} {rs : List RW} {j i : Nat} (hi : i < rs.length) : (markTo k0 rs j).getD i rw0 = ((rs.getD i rw0).1, if i < j then runF (k0 + offN rs i) (rs.getD i rw0).2.length else (rs.getD i rw0).2) := by
  unfold markTo
  simp [List.getD, hi]
theorem getD_get {rs : List RW} {i : Nat} (hi : i < rs.length) : rs.getD i rw0 = rs[i] := by simp [List.getD, hi]
theorem markTo_zero (k0 : Nat) (rs : List RW) : markTo k0 rs 0 = rs := by
  refine List.ext_getElem (markTo_len _ _ _) fun i h1 h2 => ?_
  have := markTo_getD (k0 := k0) (j := 0) h2
  rw [getD_get h1] at this
  rw [this, if_neg (by omega), getD_get h2]
theorem markTo_succ {k0 : Nat} {rs : List RW} {j : Nat} (_hj : j < rs.length) : markTo k0 rs (j + 1) = (markTo k0 rs j).set j ((rs.getD j rw0).1, runF (k0 + offN rs j) (rs.getD j rw0).2.length) := by
  refine List.ext_getElem (by simp [markTo_len]) fun i h1 h2 => ?_
  rw [markTo_len] at h1
  rw [List.getElem_set, ← getD_get (by rw [markTo_len]; exact h1), markTo_getD h1]
  by_cases h : j = i
  · subst h; rw [if_pos rfl, if_pos (by omega)]
  · rw [if_neg h, ← getD_get (by rw [markTo_len]; exact h1), markTo_getD h1]
    by_cases h2 : i < j
    · rw [if_pos h2, if_pos (by omega)]
    · rw [if_neg h2, if_neg (by omega)]
/-- nothing but the rows' own blocks is changed -/
structure OnlyRows (rs : List RW) (w w' : World) : Prop where
  os : w'.os = w.os
  tape : w'.tape = w.tape
  output : w'.output = w.output
  size : w.heap.size ≤ w'.heap.size
  block : ∀ i, i < w.heap.size → (∀ r ∈ rs, r.1.ownBlock ≠ some i) → w'.heap[i]? = w.heap[i]?
theorem OnlyRows.refl (rs : List RW) (w : World) : OnlyRows rs w w := ⟨rfl, rfl, rfl, Nat.le_refl _, fun _ _ _ => rfl⟩
theorem OnlyRows.step {rs : List RW} {w w' w'' : World} (h : OnlyRows rs w w') {r : RW} (hr : r ∈ rs) (hg : w'.grownBy w'' r.1.ownBlock) : OnlyRows rs w w'' :=
  ⟨hg.os.trans h.os, hg.tape.trans h.tape, hg.output.trans h.output, Nat.le_trans h.size hg.size, fun i hi hne =>
    (hg.block i (Nat.lt_of_lt_of_le hi h.size) (fun e => hne r hr e.symm)).trans (h.block i hi hne)⟩
theorem OnlyRows.below {rs : List RW} {w w' : World} (h : OnlyRows rs w w') {base : Nat} {v : Value} (hr : RowsIn w base v rs) (hb : base ≤ w.heap.size) : Below base w w' :=
  ⟨h.os, h.tape, h.output, h.size, fun i hi => h.block i (by omega) (fun r hrs e => by have := ((hr.2 r hrs).lt i e).1; omega)⟩
theorem OnlyRows.own {rs : List RW} {w w' : World} (h : OnlyRows rs w w') {base size n : Nat} {e : TypeId} {v : Value} {xs : List Value} (ho : w.ownsRow base e size v n xs) (hne : ∀ r ∈ rs, Far9 v r.1) : w'.ownsRow base e size v n xs := by
  refine ⟨ho.1, ?_⟩
  rcases ho.2 with h0 | ⟨g, cap, cur, hv, hb, hg, rest⟩
  · exact .inl h0
  · refine .inr ⟨g, cap, cur, hv, hb, ?_, rest⟩
    rw [h.block g (Array.getElem?_eq_some_iff.1 hg).1 (fun r hr e => ?_)]
    · exact hg
    · rcases hne r hr with h1 | h1
      · rw [hv] at h1; simp [Value.ownBlock] at h1
      · apply h1; rw [e, hv]; rfl
/-- one row is turned -/
theorem RowsIn.turn {w w' : World} {base : Nat} {v : Value} {rs : List RW} (h : RowsIn w base v rs) (hap : Apart9 rs) (hne : (28 : TypeId) ≠ 3) {k : Nat} (hk : k < rs.length) {u : Value} {zs : List Int} (hu : (rs[k]).1 = u)
    (hnew : w'.ownsRow base 3 1 u zs.length (ints zs)) (hg : w.grownBy w' u.ownBlock) : RowsIn w' base v (rs.set k (u, zs)) ∧ Apart9 (rs.set k (u, zs)) := by
  have ho := h.2 _ (List.getElem_mem hk)
  rw [hu] at ho
  refine ⟨⟨?_, fun r hr => ?_⟩, hap.set k _ (fun i hi hik => by have := hap.ne hi hk hik; rw [hu] at this; exact this)⟩
  · have e : (rs.set k (u, zs)).map (·.1) = rs.map (·.1) := by
      rw [List.map_set]
      apply List.ext_getElem (by simp)
      intro i h1 h2
      rw [List.getElem_set]
      split
      · rename_i hik; subst hik; simp [hu]
      · rfl
    rw [e, List.length_set]
    exact h.1.kept hg (own_ne9 h.1 ho hne)
  · rcases mem_set9 hr with rfl | ⟨i, hi, hik, rfl⟩
    · exact hnew
    · refine (h.2 _ (List.getElem_mem hi)).kept hg ?_
      have := hap.ne hi hk hik
      rw [hu] at this
      exact this
set_option maxRecDepth 100000 in
set_option maxHeartbeats 2000000 in
theorem markIntSS (rs : List RW) (k0 : Nat) (hk0 : k0 ≤ 1000000) (hrl : rs.length ≤ 1048576) (hrz : Hid (∀ j, j < rs.length → (rs.getD j rw0).2.length ≤ 1048576)) (base : Nat) (v : Value) (w : World) (hr : RowsIn w base v rs) (hap : Apart9 rs) :
    Calls Try.prog 20 #[v, .int .i64 k0] w fun e w' => e = .returned (.int .i64 ((k0 + offN rs rs.length : Nat) : Int)) ∧ RowsIn w' base v (markTo k0 rs rs.length) ∧ Apart9 (markTo k0 rs rs.length) ∧ OnlyRows rs w w' := by
  have Hoff : Hid (∀ j, j ≤ rs.length → offN rs j ≤ j * 1048576) := by
    intro j
    induction j with
    | zero => intro _; exact Nat.zero_le _
    | succ j ih =>
      intro hj
      have h1 := ih (by omega)
      have h2 := hrz.out j (by omega)
      unfold offN
      omega
  have Hz : Hid (markTo k0 rs 0 = rs) := markTo_zero k0 rs
  have Hs := Lib.hid (fun j hj => markTo_succ (k0 := k0) (rs := rs) (j := j) hj)
  have Hml := Lib.hid (fun j => markTo_len k0 rs j)
  have Hmg := Lib.hid (fun j i hi => markTo_getD (k0 := k0) (rs := rs) (j := j) (i := i) hi)
  obtain ⟨ao, cap, rfl⟩ : ∃ ao cap, v = .slice ao rs.length cap := by
    rcases hr.1.2 with ⟨rfl, h0⟩ | ⟨g, cap, cur, rfl, _⟩
    · exact ⟨_, _, by rw [h0]⟩
    · exact ⟨_, _, rfl⟩
  have Hr := Lib.hid hr
  have Hap := Lib.hid hap
  clear hr hap
  go_enter Try.func20, Try.ntmps20
  go_wp2
  go_loopw [1, 5] (fun q i wr => ∃ j : Nat, j ≤ rs.length ∧ i = .int .i64 j ∧ q = .int .i64 ((k0 + offN rs j : Nat) : Int) ∧ RowsIn wr base (.slice ao rs.length cap) (markTo k0 rs j) ∧ Apart9 (markTo k0 rs j) ∧ OnlyRows rs w wr) (fun _ i _ => rs.length - (intOf i).toNat)
  case atStart => exact ⟨0, Nat.zero_le _, rfl, rfl, by rw [Hz.out]; exact Hr.out, by rw [Hz.out]; exact Hap.out, OnlyRows.refl _ _⟩
  case round =>
    obtain ⟨j, hj, rfl, rfl, hri, hapj, hor⟩ := hrel
    by_cases hlt : j < rs.length
    · have hgj := Hmg.out j j hlt
      rw [if_neg (by omega)] at hgj
      have hjl : j < (markTo k0 rs j).length := by rw [Hml.out]; exact hlt
      have hrd := hri.rd
      obtain ⟨bo, bc, hv, _, _, _, hcell⟩ := hrd
      obtain ⟨b1, o1, hao, _, hc1⟩ := hcell j hjl
      rw [Hml.out] at hv
      obtain ⟨rfl, rfl⟩ : ao = bo ∧ cap = bc := by simpa using hv
      subst hao
      rw [hgj] at hc1
      have hrow := hri.2 _ (List.getElem_mem hjl)
      have hge : (markTo k0 rs j)[j] = rs.getD j rw0 := by rw [← getD_get hjl, hgj]
      rw [hge] at hrow
      have hu1 : ((markTo k0 rs j)[j]).1 = (rs.getD j rw0).1 := by rw [hge]
      have hmem : rs.getD j rw0 ∈ rs := by rw [getD_get hlt]; exact List.getElem_mem hlt
      have hz := hrz.out j hlt
      have ho := Hoff.out j (by omega)
      have Hsj := Lib.hid (Hs.out j hlt)
      have hoff1 : offN rs (j + 1) = offN rs j + (rs.getD j rw0).2.length := rfl
      have Hoff1 := Lib.hid hoff1
      clear hoff1 hge hgj hv hcell
      generalize rs.getD j rw0 = q at *
      obtain ⟨u, zs⟩ := q
      dsimp only at hc1 hrow hu1 hz
      obtain ⟨uo, uc, rfl⟩ : ∃ uo uc, u = .slice uo zs.length uc := by
        rcases hrow.2 with ⟨rfl, h0⟩ | ⟨g, c, cur, rfl, _⟩
        · exact ⟨_, _, by rw [h0]⟩
        · exact ⟨_, _, rfl⟩
      have Hturn := Lib.hid (fun w' (h1 : w'.ownsRow base 3 1 (.slice uo zs.length uc) zs.length (ints (runF (k0 + offN rs j) zs.length))) h2 => hri.turn hapj (by decide) hjl hu1 (zs := runF (k0 + offN rs j) zs.length) (w' := w') (by rw [runF_len]; exact h1) h2)
      have Hor := Lib.hid (fun w'' h => hor.step (w'' := w'') hmem h)
      have Hrow := Lib.hid hrow
      have Hsj2 : Hid (markTo k0 rs (j + 1) = (markTo k0 rs j).set j (.slice uo zs.length uc, runF (k0 + offN rs j) zs.length)) := Hsj.out
      have Hoff2 : Hid (offN rs (j + 1) = offN rs j + zs.length) := Hoff1.out
      have hkq : k0 + offN rs j ≤ 2199023255552 := by omega
      clear hri hapj hor hmem hrow hu1 hjl Hsj Hoff1 ho
      generalize hQ : k0 + offN rs j = Q at *
      have HQ := Lib.hid hQ
      clear hQ
      go_wp2_with fail
      refine (markIntS zs Q (by omega) base _ _ Hrow.out).mono ?_
      rintro e w2 ⟨rfl, ho2, hg2⟩
      obtain ⟨hn1, hn2⟩ := Hturn.out w2 ho2 hg2
      have Hn1 := Lib.hid hn1
      have Hn2 := Lib.hid hn2
      have Ho2 := Lib.hid (Hor.out w2 hg2)
      clear hn1 hn2 ho2 hg2
      go_wp2
      go_roundw
      case rel => exact ⟨j + 1, by omega, by go_num, by rw [Hoff2.out, ← Nat.add_assoc, HQ.out]; congr 1, by rw [Hsj2.out]; exact Hn1.out, by rw [Hsj2.out]; exact Hn2.out, Ho2.out⟩
      case measure => simp [intOf]; omega
    · obtain rfl : j = rs.length := Nat.le_antisymm hj (Nat.le_of_not_lt hlt)
      have Hri := Lib.hid hri
      have Hapj := Lib.hid hapj
      have Hor := Lib.hid hor
      clear hri hapj hor
      go_wp2
      go_ret
      exact ⟨rfl, Hri.out, Hapj.out, Hor.out⟩
set_option maxRecDepth 100000 in
set_option maxHeartbeats 2000000 in
theorem heldIntSS (rs : List RW) (k0 : Nat) (hk0 : k0 ≤ 1000000) (hrl : rs.length ≤ 1048576) (hrz : Hid (∀ j, j < rs.length → (rs.getD j rw0).2.length ≤ 1048576)) (B : Nat) (v : Value) (w : World) (hr : RdRows w B v (markTo k0 rs rs.length)) :
    Calls Try.prog 31 #[v, .int .i64 k0] w fun e w' => e = .returned (.int .i64 ((k0 + offN rs rs.length : Nat) : Int)) ∧ w = w' := by
  have Hoff : Hid (∀ j, j ≤ rs.length → offN rs j ≤ j * 1048576) := by
    intro j
    induction j with
    | zero => intro _; exact Nat.zero_le _
    | succ j ih =>
      intro hj
      have h1 := ih (by omega)
      have h2 := hrz.out j (by omega)
      unfold offN
      omega
  have Hget : Hid (∀ j, j < rs.length → RdInts w B (rs.getD j rw0).1 (runF (k0 + offN rs j) (rs.getD j rw0).2.length)) := fun j hj => by
    have h := hr.get (j := j) (by rw [markTo_len]; exact hj)
    rw [markTo_getD hj, if_pos hj] at h
    exact h
  obtain ⟨ao, cap, rfl, hl, hm, _, hc0⟩ := hr
  have Hc : Hid (∀ j, j < rs.length → ∃ b off, ao = some ⟨b, off, none⟩ ∧ b < B ∧ w.cell? ⟨b, off + j, none⟩ = some (rs.getD j rw0).1) := fun j hj => by
    have h := hc0 j (by rw [markTo_len]; exact hj)
    rw [markTo_getD hj] at h
    exact h
  rw [markTo_len] at hl ⊢
  unfold maxLen at hm
  clear hc0
  go_enter Try.func31, Try.ntmps31
  go_wp2
  go_loop [1, 4, 5] (fun q _ i => ∃ j : Nat, j ≤ rs.length ∧ i = .int .i64 j ∧ q = .int .i64 ((k0 + offN rs j : Nat) : Int)) (fun _ _ i => rs.length - (intOf i).toNat)
  case atStart => exact ⟨0, Nat.zero_le _, rfl, rfl⟩
  case round =>
    obtain ⟨j, hj, rfl, rfl⟩ := hrel
    by_cases hlt : j < rs.length
    · obtain ⟨b1, o1, rfl, _, hc1⟩ := Hc.out j hlt
      have hrow := Hget.out j hlt
      have hz := hrz.out j hlt
      have ho := Hoff.out j (by omega)
      have Hoff1 : Hid (offN rs (j + 1) = offN rs j + (rs.getD j rw0).2.length) := rfl
      generalize rs.getD j rw0 = q at *
      obtain ⟨u, zs⟩ := q
      dsimp only at hc1 hrow hz
      obtain ⟨m, hmz⟩ : ∃ m, m = zs.length := ⟨_, rfl⟩
      have Hoff2 : Hid (offN rs (j + 1) = offN rs j + m) := by rw [hmz]; exact Hoff1.out
      rw [← hmz] at hrow hz
      clear Hoff1 hmz
      have Hrow := Lib.hid hrow
      obtain ⟨uo, uc, rfl, _, _, _⟩ := hrow
      have hkq : k0 + offN rs j ≤ 2199023255552 := by omega
      clear ho
      generalize hQ : k0 + offN rs j = Q at *
      have HQ := Lib.hid hQ
      clear hQ
      go_wp2_with fail
      refine (heldIntS m Q (by omega) B _ _ Hrow.out).mono ?_
      rintro e w' ⟨rfl, rfl⟩
      go_wp2
      go_round
      case rel => exact ⟨j + 1, by omega, by go_num, by rw [Hoff2.out, ← Nat.add_assoc, HQ.out]; congr 1⟩
      case measure => simp [intOf]; omega
    · obtain rfl : j = rs.length := Nat.le_antisymm hj (Nat.le_of_not_lt hlt)
      go_wp2
      go_ret
      exact ⟨rfl, rfl⟩
end Go.Proofs.Ytcppoepdpgeakaa

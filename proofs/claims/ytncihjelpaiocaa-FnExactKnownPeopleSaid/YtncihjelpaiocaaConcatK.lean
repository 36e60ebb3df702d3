/- slices.Grow of the nil slice and slices.Concat, at rows of claims: a new row of all claims, one part after the other. -/
import Derived.Test.YtncihjelpaiocaaOneA
namespace Go.Proofs.Ytncihjelpaiocaa
open Go.RowKit Go.Joins
/-- what a call hands back that returns a row of claims of its own -/
def RowOutK (qs : List QC) (w : World) (e : Ending) (w' : World) : Prop := ∃ v, e = .returned v ∧ w'.ownsRow w.heap.size TC 2 v qs.length (ccells qs) ∧ Below w.heap.size w w'
abbrev PK := Value × List QC
def pk0 : PK := (.slice none 0 0, [])
def totK (ps : List PK) : Nat := (ps.map (·.2.length)).sum
theorem totK_snoc (ps : List PK) (q : PK) : totK (ps ++ [q]) = totK ps + q.2.length := by simp [totK]
set_option maxHeartbeats 1000000 in
theorem implGrowK (n : Nat) (w : World) (hn : n ≤ 1000000) :
    Calls Try.prog 95 #[.slice none 0 0, .int .i64 n] w (RowOutK [] w) := by
  by_cases h0 : n = 0
  · subst h0
    go_enter Try.func95, Try.ntmps95
    go_wp2
    go_ret
    exact ⟨_, rfl, World.ownsRow_nil _ _ _ _, Below.refl _ _⟩
  · obtain ⟨im, hmi, hmz0, hmz1, hmz2⟩ := info_parts Try.infoC
    have hrz : ∀ ty, (Builtin.append_ #[TQ, 3] ty #[.slice none 0 0, .int .i64 (n : Int)]).run Try.prog w = _ := fun ty =>
      Lib.run_append_nil_zeros (P := Try.prog) w TQ 3 ty TC im (.agg #[.int .i64 0, .slice none 0 0]) .i64 .i64 Try.underlying23 Try.underlying3 hmi hmz0 n (by omega) (by omega) (by omega) (by rw [hmz2]; omega)
    obtain ⟨G, hG⟩ : ∃ G, G = grownCap w n 0 TC := ⟨_, rfl⟩
    have hGn : n ≤ G := by rw [hG]; exact grownCap_ge w _ _ _
    have hGm : G ≤ maxLen := by rw [hG]; exact grownCap_le_maxLen w n 0 TC (by unfold maxLen; omega)
    rw [← hG] at hrz
    obtain ⟨cur, hcur⟩ : ∃ cur : Array Value, cur = Builtin.zeroCells (Value.cells (.agg #[.int .i64 0, .slice none 0 0])) n ++ Builtin.zeroCells (Value.cells (.agg #[.int .i64 0, .slice none 0 0])) (G - n) := ⟨_, rfl⟩
    have hcs : cur.size = G * 2 := by
      rw [hcur, Array.size_append, size_zeroCells, size_zeroCells, show (Value.cells (.agg #[.int .i64 0, .slice none 0 0])).size = 2 from rfl]
      omega
    rw [← hcur] at hrz
    have Hrz := Lib.hid hrz; clear hrz hcur hG
    have hG63 : G ≤ 9223372036854775807 := by unfold maxLen at hGm; omega
    have HGm := Lib.hid hGm; clear hGm
    have Hcs := Lib.hid hcs; clear hcs hmi hmz0 hmz1 hmz2
    go_enter Try.func95, Try.ntmps95
    go_wp2_with (at_builtin; refine Lib.wpList_append_run _ rfl _ _ _ _ rfl _ _ rfl rfl _ _ (Hrz.out _) ?_)
    all_goals
      go_ret
      refine ⟨_, rfl, ?_, (below_drew1 (Below.refl _ _)).alloc (Nat.le_refl _) _⟩
      exact World.ownsRow_made w.drew cur G (Nat.le_refl _) HGm.out Hcs.out
/-! ### the parts -/
def flatK (ps : List PK) : List QC := ps.flatMap (·.2)
theorem pk_at {ps : List PK} {j : Nat} (hj : j < ps.length) : ps.getD j pk0 = ps[j] := by simp [List.getD, hj]
theorem flatK_take {ps : List PK} {j : Nat} (hj : j < ps.length) : flatK (ps.take (j + 1)) = flatK (ps.take j) ++ (ps.getD j pk0).2 := by
  rw [pk_at hj, List.take_succ_eq_append_getElem hj]
  unfold flatK
  rw [List.flatMap_append, List.flatMap_singleton]
theorem totK_take {ps : List PK} {j : Nat} (hj : j < ps.length) : totK (ps.take (j + 1)) = totK (ps.take j) + (ps.getD j pk0).2.length := by
  rw [pk_at hj, List.take_succ_eq_append_getElem hj, totK_snoc]
theorem totK_take_le (ps : List PK) (j : Nat) : totK (ps.take j) ≤ totK ps := by
  conv => rhs; rw [← List.take_append_drop j ps]
  unfold totK
  rw [List.map_append, List.sum_append]
  exact Nat.le_add_right _ _
theorem flatK_length (ps : List PK) : (flatK ps).length = totK ps := by
  simp [flatK, totK, List.length_flatMap]
/-- a row of parts, in block g, each of which reads as marks below B -/
def PartsAtK (w : World) (g B : Nat) (ps : List PK) : Prop := ∀ j, j < ps.length → w.cell? ⟨g, j, none⟩ = some (ps.getD j pk0).1 ∧ RdStory w B (ps.getD j pk0).1 (ps.getD j pk0).2
theorem PartsAtK.below {w w' : World} {g B : Nat} {ps : List PK} (h : PartsAtK w g B ps) (hB : B ≤ w.heap.size) (hg : g < w.heap.size) (hb : ∀ k, k < w.heap.size → w'.heap[k]? = w.heap[k]?) : PartsAtK w' g B ps := fun j hj =>
  ⟨by rw [← (h j hj).1]; exact World.cell?_of_block (w := w) (hb g hg), (h j hj).2.below fun k hk => hb k (by omega)⟩
set_option maxRecDepth 100000 in
set_option maxHeartbeats 4000000 in
theorem implConcatK (ps : List PK) (g c : Nat) (w : World) (hps : ps.length ≤ 100) (hc : ps.length ≤ c) (_hcm : c ≤ 1000) (htot : totK ps ≤ 100000) (hg : g < w.heap.size) (hp : PartsAtK w g w.heap.size ps) :
    Calls Try.prog 82 #[.slice (some ⟨g, 0, none⟩) ps.length c] w (RowOutK (flatK ps) w) := by
  obtain ⟨im, hmi, hmz0, hmz1, hmz2⟩ := info_parts Try.infoC
  have Mi := Lib.hid hmi; clear hmi
  have Mz0 := Lib.hid hmz0; clear hmz0
  have Mz1 := Lib.hid hmz1; clear hmz1
  have Mz2 := Lib.hid hmz2; clear hmz2
  obtain ⟨wo, rfl⟩ : ∃ wo : World, wo = w := ⟨_, rfl⟩
  have Hp := Lib.hid hp; clear hp
  have Hsucc := Lib.hid (fun j hj => totK_take (ps := ps) (j := j) hj)
  have Hflat := Lib.hid (fun j hj => flatK_take (ps := ps) (j := j) hj)
  have Hle := Lib.hid (fun j => totK_take_le ps j)
  have Hfl := Lib.hid (flatK_length ps)
  have Hall : Hid (ps.take ps.length = ps) := List.take_length
  obtain ⟨M, hM⟩ : ∃ M, M = ps.length := ⟨_, rfl⟩
  have HM := Lib.hid hM
  rw [← hM] at hps hc ⊢
  clear hM
  go_enter Try.func82, Try.ntmps82
  go_wp2_with fail
  go_loopw [3, 5, 11] (fun s' _ i wr => ∃ j : Nat, j ≤ M ∧ i = .int .i64 j ∧ s' = .int .i64 (totK (ps.take j)) ∧ Below wo.heap.size wo wr) (fun _ _ i _ => M - (intOf i).toNat)
  case atStart => exact ⟨0, Nat.zero_le _, rfl, rfl, Below.refl _ _⟩
  case round =>
    obtain ⟨j, hj, rfl, rfl, hbr⟩ := hrel
    by_cases hlt : j < M
    · obtain ⟨hcell, hrd⟩ := Hp.out j (by rw [← HM.out]; exact hlt)
      have Hs := Lib.hid (Hsucc.out j (by rw [← HM.out]; exact hlt))
      have hle1 := Hle.out (j + 1)
      rw [Hs.out] at hle1
      obtain ⟨ao, cap, hu, hlc, hcap, _, _⟩ := hrd
      generalize ps.getD j pk0 = q at *
      obtain ⟨u, ms⟩ := q
      dsimp only at hu hcell hlc hle1
      subst hu
      have Hs' : Hid (totK (ps.take (j + 1)) = totK (ps.take j) + ms.length) := Hs.out
      clear Hs
      rw [← hbr.cell (p := ⟨g, j, none⟩) hg] at hcell
      unfold maxLen at hcap
      generalize totK (ps.take j) = T at *
      generalize hL : ms.length = L at *
      clear hL
      have hneg : ¬ ((T : Int) + (L : Int) < 0) := by omega
      have hT : T + L ≤ 100000 := by omega
      have Hbr := Lib.hid hbr; clear hbr hle1
      go_wp2
      go_roundw
      case rel => exact ⟨j + 1, by omega, by go_num, by rw [Hs'.out]; go_num, Hbr.out⟩
      case measure => simp [intOf]; omega
    · obtain rfl : j = M := by omega
      have hT : totK (ps.take j) = totK ps := by rw [HM.out, Hall.out]
      rw [hT]
      have Hgr := Lib.hid (fun w => implGrowK (totK ps) w (by omega))
      have Htl : Hid (totK ps ≤ 100000) := htot
      have Hee : Hid (totK (ps.take ps.length) = totK ps) := by unfold Hid; rw [Hall.out]
      generalize totK ps = T at *
      clear hT hlt htot
      have Hbr := Lib.hid hbr; clear hbr
      go_wp2_with fail
      refine (Hgr.out _).mono ?_
      rintro e w1 ⟨v1, rfl, ho1, hb1⟩
      have hB1 : Below wo.heap.size wo w1 := Hbr.out.trans (hb1.mono Hbr.out.size)
      have Ho1 := Lib.hid (own_mono ho1 Hbr.out.size)
      have HB1 := Lib.hid hB1
      clear hB1 hb1 ho1
      go_wp2_with fail
      go_loopw [6, 8, 27] (fun v _ i wr => ∃ k : Nat, k ≤ j ∧ i = .int .i64 k ∧ wr.ownsRow wo.heap.size TC 2 v (totK (ps.take k)) (ccells (flatK (ps.take k))) ∧ Below wo.heap.size wo wr) (fun _ _ i _ => j - (intOf i).toNat)
      case atStart => exact ⟨0, Nat.zero_le _, rfl, Ho1.out, HB1.out⟩
      case round =>
        obtain ⟨k, hk, rfl, hown, hbr⟩ := hrel
        by_cases hlt : k < j
        · have hlt' : k < ps.length := by rw [← HM.out]; exact hlt
          obtain ⟨hcell, hrd⟩ := Hp.out k hlt'
          have Hs := Lib.hid (Hsucc.out k hlt')
          have Hf := Lib.hid (Hflat.out k hlt')
          have hle1 := Hle.out (k + 1)
          rw [Hs.out] at hle1
          generalize ps.getD k pk0 = q at *
          obtain ⟨u, ms⟩ := q
          dsimp only at hcell hrd hle1
          have Hs' : Hid (totK (ps.take (k + 1)) = totK (ps.take k) + ms.length) := Hs.out
          have Hf' : Hid (flatK (ps.take (k + 1)) = flatK (ps.take k) ++ ms) := Hf.out
          clear Hs Hf
          rw [← hbr.cell (p := ⟨g, k, none⟩) hg] at hcell
          have hrd' := hrd.below (w' := _) (fun q hq => hbr.block q hq)
          obtain ⟨v4, w4, hrun, hown4, hgr4, _⟩ := append_story (ty := TQ) Mi.out Mz0.out Mz1.out Mz2.out hown hrd' (by have := Htl.out; omega) hbr.size
          have hrow := hown.lt
          obtain ⟨ao, cap, hu, _⟩ := hrd
          subst hu
          have hB4 : wo.grownBy w4 none := grown_own ⟨hbr.os, hbr.tape, hbr.output, hbr.size, fun i hi _ => hbr.block i hi⟩ hgr4 (fun q hq => (hown.lt q hq).1)
          have Hrun := Lib.hid hrun
          have HB4 := Lib.hid (below_none hB4)
          have Hown4 := Lib.hid hown4
          clear hrun hown4 hgr4 hrow hrd' hle1 hown hB4 hbr
          go_wp2_with (first
            | (at_builtin; refine Lib.wpList_append_run _ rfl _ _ _ _ rfl _ _ rfl rfl _ _ Hrun.out ?_)
            | fail)
          go_roundw
          case rel => exact ⟨k + 1, by omega, by go_num, by rw [Hs'.out, Hf'.out, ccells_append]; exact Hown4.out, HB4.out⟩
          case measure => simp [intOf]; omega
        · obtain rfl : k = j := by omega
          have Hown := Lib.hid hown; have Hbr2 := Lib.hid hbr
          clear hown hbr
          go_wp2
          go_ret
          refine ⟨_, rfl, ?_, Hbr2.out⟩
          have ho := Hown.out
          rw [HM.out, Hee.out, Hall.out] at ho
          rw [Hfl.out]
          exact ho
/-- two parts, one behind the other -/
theorem concatK2 (w : World) (g c : Nat) (u v : Value) (xs ys : List QC) (hc : 2 ≤ c) (hcm : c ≤ 1000) (hg : g < w.heap.size) (c0 : w.cell? ⟨g, 0, none⟩ = some u) (c1 : w.cell? ⟨g, 1, none⟩ = some v) (ha : RdStory w w.heap.size u xs) (hb : RdStory w w.heap.size v ys) (hl : xs.length + ys.length ≤ 1000) :
    Calls Try.prog 82 #[.slice (some ⟨g, 0, none⟩) 2 c] w (RowOutK (xs ++ ys) w) := by
  have hfl : flatK [(u, xs), (v, ys)] = xs ++ ys := by simp [flatK]
  have hc := implConcatK [(u, xs), (v, ys)] g c w (by simp) (by simpa using hc) hcm (by simp [totK]; omega) hg (fun j hj => by
    have hj2 : j = 0 ∨ j = 1 := by simp at hj; omega
    rcases hj2 with rfl | rfl
    · exact ⟨c0, ha⟩
    · exact ⟨c1, hb⟩)
  rw [hfl] at hc
  exact hc
end Go.Proofs.Ytncihjelpaiocaa

/- Texts of a proof, merged: Concat, Just, TruthA. -/
import Derived.Test.YtbnickgjnglblaaMerged10
import Derived.Maps.AppendAt
import Derived.Lib.AppendZeros
import Derived.Test.YtbnickgjnglblaaMerged9
import Derived.Deep.RegionWith
/- slices.Grow of the nil slice and slices.Concat, at rows of marks: a new row of all marks, one part after the other. -/
namespace Go.Proofs.Ytbnickgjnglblaa
open Go.RowKit Go.Joins
theorem run_append_own_none {P : Program} (w : World) (base : Nat) (t ty e : TypeId) (i : TypeInfo) (size : Nat) (ht : P.underlying t = some (.slice e)) (hi : P.info? e = some i)
    (hsize : i.size = size) (v : Value) (n : Nat) (xs : List Value) (hown : w.ownsRow base e size v n xs) (c : Nat) (hn : n ≤ maxLen) :
    (Builtin.append_ #[t, t] ty #[v, .slice none 0 c]).run P w = .ok v w := by
  subst hsize
  unfold maxLen at hn
  rcases hown.2 with ⟨rfl, rfl⟩ | ⟨g, cap, cur, rfl, hbg, hg, hnc, hcm, hcs, htake⟩
  · simp [Builtin.append_, run_underlying ht, sizeOf, typeInfo, hi, Builtin.lenOf, Builtin.firstCells]
  · simp [Builtin.append_, run_underlying ht, sizeOf, typeInfo, hi, Builtin.lenOf, Builtin.firstCells, hnc, storeCells]
/-- an append of marks that are read, wherever they lie -/
theorem append_rd {w : World} {base B n : Nat} {v u : Value} {cs : List Value} {ms : List (Int × Int)} {im : TypeInfo} (hmi : Try.prog.info? TM = some im) (hz : im.zero = some (.agg #[.int .i64 0, .int .i64 0])) (hsize : im.size = 2) (hby : im.bytes = 16)
    (hown : w.ownsRow base TM 2 v n cs) (hr : RdMarks w B u ms) (hl : n + ms.length ≤ 4000000) (hbase : base ≤ w.heap.size) :
    ∃ v' w', (Builtin.append_ #[TS, TS] TS #[v, u]).run Try.prog w = .ok v' w' ∧ w'.ownsRow base TM 2 v' (n + ms.length) (cs ++ mcells ms) ∧ w.grownBy w' v.ownBlock ∧ (v'.ownBlock = v.ownBlock ∨ v'.ownBlock = some w.heap.size) := by
  have hr0 := hr
  obtain ⟨ao, cap, rfl, hlc, hcm, hi, hc⟩ := hr
  cases ao with
  | none =>
    have h0 : ms = [] := by
      cases ms with
      | nil => rfl
      | cons m r =>
        obtain ⟨_, _, he, _⟩ := hc 0 (by simp)
        cases he
    subst h0
    refine ⟨v, w, run_append_own_none w base TS TS TM im 2 Try.underlying38 hmi hsize v n cs hown cap (by unfold maxLen; omega), by simpa [mcells] using hown, World.grownBy.refl _ _, .inl rfl⟩
  | some a =>
    have hnews : ∀ (j : Nat) (x : Value), (mcells ms)[j]? = some x → w.cell? (a.add j) = some x := by
      cases ms with
      | nil => intro j x hj; simp [mcells] at hj
      | cons m r =>
        obtain ⟨b, off, he, _⟩ := hc 0 (by simp)
        cases he
        exact hr0.cells
    obtain ⟨v', w', h1, h2, h3, _, h5⟩ := run_append_own_at (P := Try.prog) w base TS TS TM im (.agg #[.int .i64 0, .int .i64 0]) 2 16 Try.underlying38 hmi hz hsize hby rfl (by omega) v n cs hown a ms.length cap (mcells ms) (mcells_length _) hnews (mcells_one _) (by unfold maxLen; omega) (by omega) hbase
    exact ⟨v', w', h1, h2, h3, h5⟩
set_option maxHeartbeats 1000000 in
theorem implGrow (n : Nat) (w : World) (hn : n ≤ 1000000) :
    Calls Try.prog 44 #[.slice none 0 0, .int .i64 n] w (RowOut [] w) := by
  by_cases h0 : n = 0
  · subst h0
    go_enter Try.func44, Try.ntmps44
    go_wp2
    go_ret
    exact ⟨_, rfl, World.ownsRow_nil _ _ _ _, Below.refl _ _⟩
  · obtain ⟨im, hmi, hmz0, hmz1, hmz2⟩ := info_parts Try.infoM
    have hrz : ∀ ty, (Builtin.append_ #[TS, 3] ty #[.slice none 0 0, .int .i64 (n : Int)]).run Try.prog w = _ := fun ty =>
      Lib.run_append_nil_zeros (P := Try.prog) w TS 3 ty TM im (.agg #[.int .i64 0, .int .i64 0]) .i64 .i64 Try.underlying38 Try.underlying3 hmi hmz0 n (by omega) (by omega) (by omega) (by rw [hmz2]; omega)
    obtain ⟨G, hG⟩ : ∃ G, G = grownCap w n 0 TM := ⟨_, rfl⟩
    have hGn : n ≤ G := by rw [hG]; exact grownCap_ge w _ _ _
    have hGm : G ≤ maxLen := by rw [hG]; exact grownCap_le_maxLen w n 0 TM (by unfold maxLen; omega)
    rw [← hG] at hrz
    obtain ⟨cur, hcur⟩ : ∃ cur : Array Value, cur = Builtin.zeroCells (Value.cells (.agg #[.int .i64 0, .int .i64 0])) n ++ Builtin.zeroCells (Value.cells (.agg #[.int .i64 0, .int .i64 0])) (G - n) := ⟨_, rfl⟩
    have hcs : cur.size = G * 2 := by
      rw [hcur, Array.size_append, size_zeroCells, size_zeroCells, show (Value.cells (.agg #[.int .i64 0, .int .i64 0])).size = 2 from rfl]
      omega
    rw [← hcur] at hrz
    have Hrz := Lib.hid hrz; clear hrz hcur hG
    have hG63 : G ≤ 9223372036854775807 := by unfold maxLen at hGm; omega
    have HGm := Lib.hid hGm; clear hGm
    have Hcs := Lib.hid hcs; clear hcs hmi hmz0 hmz1 hmz2
    go_enter Try.func44, Try.ntmps44
    go_wp2_with (at_builtin; refine Lib.wpList_append_run _ rfl _ _ _ _ rfl _ _ rfl rfl _ _ (Hrz.out _) ?_)
    all_goals
      go_ret
      refine ⟨_, rfl, ?_, (below_drew1 (Below.refl _ _)).alloc (Nat.le_refl _) _⟩
      exact World.ownsRow_made w.drew cur G (Nat.le_refl _) HGm.out Hcs.out
/-! ### the parts -/
def flat (ps : List PQ) : List (Int × Int) := ps.flatMap (·.2)
theorem pq_at {ps : List PQ} {j : Nat} (hj : j < ps.length) : ps.getD j pq0 = ps[j] := by simp [List.getD, hj]
theorem flat_take {ps : List PQ} {j : Nat} (hj : j < ps.length) : flat (ps.take (j + 1)) = flat (ps.take j) ++ (ps.getD j pq0).2 := by
  rw [pq_at hj, List.take_succ_eq_append_getElem hj]
  unfold flat
  rw [List.flatMap_append, List.flatMap_singleton]
theorem tot_take {ps : List PQ} {j : Nat} (hj : j < ps.length) : tot (ps.take (j + 1)) = tot (ps.take j) + (ps.getD j pq0).2.length := by
  rw [pq_at hj, List.take_succ_eq_append_getElem hj, tot_snoc]
theorem tot_take_le (ps : List PQ) (j : Nat) : tot (ps.take j) ≤ tot ps := by
  conv => rhs; rw [← List.take_append_drop j ps]
  unfold tot
  rw [List.map_append, List.sum_append]
  exact Nat.le_add_right _ _
theorem flat_length (ps : List PQ) : (flat ps).length = tot ps := by
  simp [flat, tot, List.length_flatMap]
/-- a row of parts, in block g, each of which reads as marks below B -/
def PartsAt (w : World) (g B : Nat) (ps : List PQ) : Prop := ∀ j, j < ps.length → w.cell? ⟨g, j, none⟩ = some (ps.getD j pq0).1 ∧ RdMarks w B (ps.getD j pq0).1 (ps.getD j pq0).2
theorem PartsAt.below {w w' : World} {g B : Nat} {ps : List PQ} (h : PartsAt w g B ps) (hB : B ≤ w.heap.size) (hg : g < w.heap.size) (hb : ∀ k, k < w.heap.size → w'.heap[k]? = w.heap[k]?) : PartsAt w' g B ps := fun j hj =>
  ⟨by rw [← (h j hj).1]; exact World.cell?_of_block (w := w) (hb g hg), (h j hj).2.below fun k hk => hb k (by omega)⟩
set_option maxRecDepth 100000 in
set_option maxHeartbeats 4000000 in
theorem implConcat (ps : List PQ) (g c : Nat) (w : World) (hps : ps.length ≤ 100) (hc : ps.length ≤ c) (_hcm : c ≤ 1000) (htot : tot ps ≤ 100000) (hg : g < w.heap.size) (hp : PartsAt w g w.heap.size ps) :
    Calls Try.prog 38 #[.slice (some ⟨g, 0, none⟩) ps.length c] w (RowOut (flat ps) w) := by
  obtain ⟨im, hmi, hmz0, hmz1, hmz2⟩ := info_parts Try.infoM
  have Mi := Lib.hid hmi; clear hmi
  have Mz0 := Lib.hid hmz0; clear hmz0
  have Mz1 := Lib.hid hmz1; clear hmz1
  have Mz2 := Lib.hid hmz2; clear hmz2
  obtain ⟨wo, rfl⟩ : ∃ wo : World, wo = w := ⟨_, rfl⟩
  have Hp := Lib.hid hp; clear hp
  have Hsucc := Lib.hid (fun j hj => tot_take (ps := ps) (j := j) hj)
  have Hflat := Lib.hid (fun j hj => flat_take (ps := ps) (j := j) hj)
  have Hle := Lib.hid (fun j => tot_take_le ps j)
  have Hfl := Lib.hid (flat_length ps)
  have Hall : Hid (ps.take ps.length = ps) := List.take_length
  obtain ⟨M, hM⟩ : ∃ M, M = ps.length := ⟨_, rfl⟩
  have HM := Lib.hid hM
  rw [← hM] at hps hc ⊢
  clear hM
  go_enter Try.func38, Try.ntmps38
  go_wp2_with fail
  go_loopw [3, 5, 11] (fun s' _ i wr => ∃ j : Nat, j ≤ M ∧ i = .int .i64 j ∧ s' = .int .i64 (tot (ps.take j)) ∧ Below wo.heap.size wo wr) (fun _ _ i _ => M - (intOf i).toNat)
  case atStart => exact ⟨0, Nat.zero_le _, rfl, rfl, Below.refl _ _⟩
  case round =>
    obtain ⟨j, hj, rfl, rfl, hbr⟩ := hrel
    by_cases hlt : j < M
    · obtain ⟨hcell, hrd⟩ := Hp.out j (by rw [← HM.out]; exact hlt)
      have Hs := Lib.hid (Hsucc.out j (by rw [← HM.out]; exact hlt))
      have hle1 := Hle.out (j + 1)
      rw [Hs.out] at hle1
      obtain ⟨ao, cap, hu, hlc, hcap, _, _⟩ := hrd
      generalize ps.getD j pq0 = q at *
      obtain ⟨u, ms⟩ := q
      dsimp only at hu hcell hlc hle1
      subst hu
      have Hs' : Hid (tot (ps.take (j + 1)) = tot (ps.take j) + ms.length) := Hs.out
      clear Hs
      rw [← hbr.cell (p := ⟨g, j, none⟩) hg] at hcell
      unfold maxLen at hcap
      generalize tot (ps.take j) = T at *
      generalize hL : ms.length = L at *
      clear hL
      have hneg : ¬ ((T : Int) + (L : Int) < 0) := by omega
      have hT : T + L ≤ 100000 := by omega
      have Hbr := Lib.hid hbr; clear hbr hle1
      go_wp2
      go_roundw
      case rel => exact ⟨j + 1, by omega, by go_num, by rw [Hs'.out]; go_num, Hbr.out⟩
      case measure => simp [intOf]; omega
    · obtain rfl : j = M := by omega
      have hT : tot (ps.take j) = tot ps := by rw [HM.out, Hall.out]
      rw [hT]
      have Hgr := Lib.hid (fun w => implGrow (tot ps) w (by omega))
      have Htl : Hid (tot ps ≤ 100000) := htot
      have Hee : Hid (tot (ps.take ps.length) = tot ps) := by unfold Hid; rw [Hall.out]
      generalize tot ps = T at *
      clear hT hlt htot
      have Hbr := Lib.hid hbr; clear hbr
      go_wp2_with fail
      refine (Hgr.out _).mono ?_
      rintro e w1 ⟨v1, rfl, ho1, hb1⟩
      have hB1 : Below wo.heap.size wo w1 := Hbr.out.trans (hb1.mono Hbr.out.size)
      have Ho1 := Lib.hid (own_mono ho1 Hbr.out.size)
      have HB1 := Lib.hid hB1
      clear hB1 hb1 ho1
      go_wp2_with fail
      go_loopw [6, 8, 27] (fun v _ i wr => ∃ k : Nat, k ≤ j ∧ i = .int .i64 k ∧ wr.ownsRow wo.heap.size TM 2 v (tot (ps.take k)) (mcells (flat (ps.take k))) ∧ Below wo.heap.size wo wr) (fun _ _ i _ => j - (intOf i).toNat)
      case atStart => exact ⟨0, Nat.zero_le _, rfl, Ho1.out, HB1.out⟩
      case round =>
        obtain ⟨k, hk, rfl, hown, hbr⟩ := hrel
        by_cases hlt : k < j
        · have hlt' : k < ps.length := by rw [← HM.out]; exact hlt
          obtain ⟨hcell, hrd⟩ := Hp.out k hlt'
          have Hs := Lib.hid (Hsucc.out k hlt')
          have Hf := Lib.hid (Hflat.out k hlt')
          have hle1 := Hle.out (k + 1)
          rw [Hs.out] at hle1
          generalize ps.getD k pq0 = q at *
          obtain ⟨u, ms⟩ := q
          dsimp only at hcell hrd hle1
          have Hs' : Hid (tot (ps.take (k + 1)) = tot (ps.take k) + ms.length) := Hs.out
          have Hf' : Hid (flat (ps.take (k + 1)) = flat (ps.take k) ++ ms) := Hf.out
          clear Hs Hf
          rw [← hbr.cell (p := ⟨g, k, none⟩) hg] at hcell
          have hrd' := hrd.below (w' := _) (fun q hq => hbr.block q hq)
          obtain ⟨v4, w4, hrun, hown4, hgr4, _⟩ := append_rd Mi.out Mz0.out Mz1.out Mz2.out hown hrd' (by have := Htl.out; omega) hbr.size
          have hrow := hown.lt
          obtain ⟨ao, cap, hu, _⟩ := hrd
          subst hu
          have hB4 : wo.grownBy w4 none := grown_own ⟨hbr.os, hbr.tape, hbr.output, hbr.size, fun i hi _ => hbr.block i hi⟩ hgr4 (fun q hq => (hown.lt q hq).1)
          have Hrun := Lib.hid hrun
          have HB4 := Lib.hid (below_none hB4)
          have Hown4 := Lib.hid hown4
          clear hrun hown4 hgr4 hrow hrd' hle1 hown hB4 hbr
          go_wp2_with (first
            | (at_builtin; refine Lib.wpList_append_run _ rfl _ _ _ _ rfl _ _ rfl rfl _ _ Hrun.out ?_)
            | fail)
          go_roundw
          case rel => exact ⟨k + 1, by omega, by go_num, by rw [Hs'.out, Hf'.out, mcells_append]; exact Hown4.out, HB4.out⟩
          case measure => simp [intOf]; omega
        · obtain rfl : k = j := by omega
          have Hown := Lib.hid hown; have Hbr2 := Lib.hid hbr
          clear hown hbr
          go_wp2
          go_ret
          refine ⟨_, rfl, ?_, Hbr2.out⟩
          have ho := Hown.out
          rw [HM.out, Hee.out, Hall.out] at ho
          rw [Hfl.out]
          exact ho
theorem rd_one {w : World} {h B : Nat} {k x : Int} (h0 : w.cell? ⟨h, 0, none⟩ = some (.int .i64 k)) (h1 : w.cell? ⟨h, 1, none⟩ = some (.int .i64 x)) (hk : I64 k) (hx : I64 x) (hB : h < B) : RdMarks w B (.slice (some ⟨h, 0, none⟩) 1 1) [(k, x)] := by
  refine ⟨_, 1, rfl, Nat.le_refl _, by unfold maxLen; omega, I64s_one hk hx, fun j hj => ⟨h, 0, rfl, hB, ?_, ?_⟩⟩
  all_goals
    have : j = 0 := by simpa using hj
    subst this
  · exact h0
  · exact h1
/-- marks that came in, and one behind them -/
theorem concat2 (w : World) (g h : Nat) (u : Value) (ms : List (Int × Int)) (k x : Int) (hg : g < w.heap.size) (hh : h < w.heap.size) (c0 : w.cell? ⟨g, 0, none⟩ = some u) (c1 : w.cell? ⟨g, 1, none⟩ = some (.slice (some ⟨h, 0, none⟩) 1 1))
    (h0 : w.cell? ⟨h, 0, none⟩ = some (.int .i64 k)) (h1 : w.cell? ⟨h, 1, none⟩ = some (.int .i64 x)) (hk : I64 k) (hx : I64 x) (hr : RdMarks w w.heap.size u ms) (hl : ms.length ≤ 100) :
    Calls Try.prog 38 #[.slice (some ⟨g, 0, none⟩) 2 2] w (RowOut (ms ++ [(k, x)]) w) := by
  have hfl : flat [(u, ms), (.slice (some ⟨h, 0, none⟩) 1 1, [(k, x)])] = ms ++ [(k, x)] := by simp [flat]
  have hc := implConcat [(u, ms), (.slice (some ⟨h, 0, none⟩) 1 1, [(k, x)])] g 2 w (by simp) (by simp) (by omega) (by simp [tot]; omega) hg (fun j hj => by
    have hj2 : j = 0 ∨ j = 1 := by simp at hj; omega
    rcases hj2 with rfl | rfl
    · exact ⟨c0, hr⟩
    · exact ⟨c1, rd_one h0 h1 hk hx hh⟩)
  rw [hfl] at hc
  exact hc
/-- one mark, marks that came in, and one mark -/
theorem concat3 (w : World) (g h h' : Nat) (u : Value) (ms : List (Int × Int)) (k x k' x' : Int) (hg : g < w.heap.size) (hh : h < w.heap.size) (hh' : h' < w.heap.size) (c0 : w.cell? ⟨g, 0, none⟩ = some (.slice (some ⟨h, 0, none⟩) 1 1)) (c1 : w.cell? ⟨g, 1, none⟩ = some u) (c2 : w.cell? ⟨g, 2, none⟩ = some (.slice (some ⟨h', 0, none⟩) 1 1))
    (h0 : w.cell? ⟨h, 0, none⟩ = some (.int .i64 k)) (h1 : w.cell? ⟨h, 1, none⟩ = some (.int .i64 x)) (h2 : w.cell? ⟨h', 0, none⟩ = some (.int .i64 k')) (h3 : w.cell? ⟨h', 1, none⟩ = some (.int .i64 x')) (hk : I64 k) (hx : I64 x) (hk' : I64 k') (hx' : I64 x') (hr : RdMarks w w.heap.size u ms) (hl : ms.length ≤ 100) :
    Calls Try.prog 38 #[.slice (some ⟨g, 0, none⟩) 3 3] w (RowOut ((k, x) :: ms ++ [(k', x')]) w) := by
  have hfl : flat [(.slice (some ⟨h, 0, none⟩) 1 1, [(k, x)]), (u, ms), (.slice (some ⟨h', 0, none⟩) 1 1, [(k', x')])] = (k, x) :: ms ++ [(k', x')] := by simp [flat]
  have hc := implConcat [(.slice (some ⟨h, 0, none⟩) 1 1, [(k, x)]), (u, ms), (.slice (some ⟨h', 0, none⟩) 1 1, [(k', x')])] g 3 w (by simp) (by simp) (by omega) (by simp [tot]; omega) hg (fun j hj => by
    have hj2 : j = 0 ∨ j = 1 ∨ j = 2 := by simp at hj; omega
    rcases hj2 with rfl | rfl | rfl
    · exact ⟨c0, rd_one h0 h1 hk hx hh⟩
    · exact ⟨c1, hr⟩
    · exact ⟨c2, rd_one h2 h3 hk' hx' hh'⟩)
  rw [hfl] at hc
  exact hc
end Go.Proofs.Ytbnickgjnglblaa
/- Contract of the program's justIfTells: the two marks around a term that make it the claim's own, in memory of its own. -/
namespace Go.Proofs.Ytbnickgjnglblaa
open Go.RowKit Go.Joins
theorem below_allocs3 (w : World) (a b c : Obj) : Below w.heap.size w (((w.alloc a).alloc b).alloc c) :=
  (((Below.refl _ _).alloc (Nat.le_refl _) _).alloc (by simp) _).alloc (by simp; omega) _
set_option maxHeartbeats 2000000 in
theorem implJustIfTells (k : Int) (ms : List (Int × Int)) (hk : I64 k) (hlen : ms.length ≤ 100) (B : Nat) (u : Value) (w : World) (hr : RdMarks w B u ms) (hB : B ≤ w.heap.size) :
    Calls Try.prog 30 #[.int .i64 k, u] w (RowOut (ctermL (k, ms)) w) := by
  obtain ⟨ao, cap, rfl, hal, ham⟩ : ∃ ao cap, u = .slice ao ms.length cap ∧ ms.length ≤ cap ∧ cap ≤ maxLen := by
    obtain ⟨ao, cap, h1, h2, h3, _⟩ := hr
    exact ⟨ao, cap, h1, h2, h3⟩
  unfold maxLen at ham
  have Hr := Lib.hid hr
  have Hk := Lib.hid hk
  clear hr hk
  go_enter Try.func30, Try.ntmps30
  go_wp2_with fail
  have hb4 := below_allocs3 w (.cells #[.int .i64 0, .int .i64 k] TM) (.cells #[.int .i64 5, .int .i64 0] TM) (.cells #[.slice (some ⟨w.heap.size, 0, none⟩) 1 1, .slice ao ms.length cap, .slice (some ⟨w.heap.size + 1, 0, none⟩) 1 1] TS)
  have hz4 : (((w.alloc (.cells #[.int .i64 0, .int .i64 k] TM)).alloc (.cells #[.int .i64 5, .int .i64 0] TM)).alloc (.cells #[.slice (some ⟨w.heap.size, 0, none⟩) 1 1, .slice ao ms.length cap, .slice (some ⟨w.heap.size + 1, 0, none⟩) 1 1] TS)).heap.size = w.heap.size + 3 := by simp
  have c0 : (((w.alloc (.cells #[.int .i64 0, .int .i64 k] TM)).alloc (.cells #[.int .i64 5, .int .i64 0] TM)).alloc (.cells #[.slice (some ⟨w.heap.size, 0, none⟩) 1 1, .slice ao ms.length cap, .slice (some ⟨w.heap.size + 1, 0, none⟩) 1 1] TS)).cell? ⟨w.heap.size, 0, none⟩ = some (.int .i64 0) := by go_simp
  have c1 : (((w.alloc (.cells #[.int .i64 0, .int .i64 k] TM)).alloc (.cells #[.int .i64 5, .int .i64 0] TM)).alloc (.cells #[.slice (some ⟨w.heap.size, 0, none⟩) 1 1, .slice ao ms.length cap, .slice (some ⟨w.heap.size + 1, 0, none⟩) 1 1] TS)).cell? ⟨w.heap.size, 1, none⟩ = some (.int .i64 k) := by go_simp
  have c2 : (((w.alloc (.cells #[.int .i64 0, .int .i64 k] TM)).alloc (.cells #[.int .i64 5, .int .i64 0] TM)).alloc (.cells #[.slice (some ⟨w.heap.size, 0, none⟩) 1 1, .slice ao ms.length cap, .slice (some ⟨w.heap.size + 1, 0, none⟩) 1 1] TS)).cell? ⟨w.heap.size + 1, 0, none⟩ = some (.int .i64 5) := by go_simp
  have c3 : (((w.alloc (.cells #[.int .i64 0, .int .i64 k] TM)).alloc (.cells #[.int .i64 5, .int .i64 0] TM)).alloc (.cells #[.slice (some ⟨w.heap.size, 0, none⟩) 1 1, .slice ao ms.length cap, .slice (some ⟨w.heap.size + 1, 0, none⟩) 1 1] TS)).cell? ⟨w.heap.size + 1, 1, none⟩ = some (.int .i64 0) := by go_simp
  have c4 : (((w.alloc (.cells #[.int .i64 0, .int .i64 k] TM)).alloc (.cells #[.int .i64 5, .int .i64 0] TM)).alloc (.cells #[.slice (some ⟨w.heap.size, 0, none⟩) 1 1, .slice ao ms.length cap, .slice (some ⟨w.heap.size + 1, 0, none⟩) 1 1] TS)).cell? ⟨w.heap.size + 1 + 1, 0, none⟩ = some (.slice (some ⟨w.heap.size, 0, none⟩) 1 1) := by go_simp
  have c5 : (((w.alloc (.cells #[.int .i64 0, .int .i64 k] TM)).alloc (.cells #[.int .i64 5, .int .i64 0] TM)).alloc (.cells #[.slice (some ⟨w.heap.size, 0, none⟩) 1 1, .slice ao ms.length cap, .slice (some ⟨w.heap.size + 1, 0, none⟩) 1 1] TS)).cell? ⟨w.heap.size + 1 + 1, 1, none⟩ = some (.slice ao ms.length cap) := by go_simp
  have c6 : (((w.alloc (.cells #[.int .i64 0, .int .i64 k] TM)).alloc (.cells #[.int .i64 5, .int .i64 0] TM)).alloc (.cells #[.slice (some ⟨w.heap.size, 0, none⟩) 1 1, .slice ao ms.length cap, .slice (some ⟨w.heap.size + 1, 0, none⟩) 1 1] TS)).cell? ⟨w.heap.size + 1 + 1, 2, none⟩ = some (.slice (some ⟨w.heap.size + 1, 0, none⟩) 1 1) := by go_simp
  generalize ((w.alloc (.cells #[.int .i64 0, .int .i64 k] TM)).alloc (.cells #[.int .i64 5, .int .i64 0] TM)).alloc (.cells #[.slice (some ⟨w.heap.size, 0, none⟩) 1 1, .slice ao ms.length cap, .slice (some ⟨w.heap.size + 1, 0, none⟩) 1 1] TS) = w4 at *
  refine (concat3 w4 _ _ _ _ ms 0 k 5 0 (by omega) (by omega) (by omega) c4 c5 c6 c0 c1 c2 c3 (I64_small (by omega) (by omega)) Hk.out (I64_small (by omega) (by omega)) (I64_small (by omega) (by omega)) ((Hr.out.below (w' := w4) (fun q hq => hb4.block q (by omega))).mono (by omega)) (by omega)).mono ?_
  rintro e w5 ⟨v, rfl, ho, hb5⟩
  have Ho := Lib.hid ho
  have Hb5 := Lib.hid (hb4.trans (hb5.mono (show w.heap.size ≤ _ by omega)))
  have hs4 : w.heap.size ≤ w4.heap.size := by omega
  clear ho hb5 hb4 c0 c1 c2 c3 c4 c5 c6
  go_wp2
  go_ret
  refine ⟨v, rfl, ?_, Hb5.out⟩
  unfold ctermL
  exact own_mono Ho.out hs4
end Go.Proofs.Ytbnickgjnglblaa
/- Contract of the reference's AlwaysOk. -/
namespace Go.Proofs.Ytbnickgjnglblaa
open Go.RowKit
attribute [local irreducible] holds tabN tabV holdsV sameV followsV alwaysV matterV
end Go.Proofs.Ytbnickgjnglblaa

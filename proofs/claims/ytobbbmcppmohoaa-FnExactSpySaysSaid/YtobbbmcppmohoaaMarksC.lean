/- Contracts over rows of marks: the exact laws' copies, marks laid and held. -/
import Derived.Test.YtobbbmcppmohoaaMarksB
namespace Go.Proofs.Ytobbbmcppmohoaa
open Go.RowKit Go.Joins

theorem Try.infoM : (Try.prog.info? 84).map (fun i => (i.zero, i.size, i.bytes)) = some (some (.agg #[.int .i64 0, .int .i64 0]), 2, 16) := by kernel_rfl

theorem only_of_below {a w : World} (h : Below a.heap.size a w) (row : Option Nat) : a.grownBy w row := ⟨h.os, h.tape, h.output, h.size, fun i hi _ => h.block i hi⟩
theorem own_below {w w' : World} {base n size : Nat} {e : TypeId} {v : Value} {xs : List Value} (h : w.ownsRow base e size v n xs) (hb : Below w.heap.size w w') : w'.ownsRow base e size v n xs := by
  refine h.kept (only_of_below hb none) ?_
  cases v.ownBlock with
  | none => exact .inl rfl
  | some g => exact .inr (by simp)
theorem below_undrew {B : Nat} {w w' : World} (h : Below B w.drew w') : Below B w w' := ⟨h.os, h.tape, h.output, h.size, h.block⟩

/-! ### cells set -/
theorem mcells_set (A R : List (Int × Int)) (m m' : Int × Int) (k : Nat) (hk : A.length = k) :
    ((mcells (A ++ m :: R)).set (k * 2) (.int .i64 m'.1)).set (k * 2 + 1) (.int .i64 m'.2) = mcells (A ++ m' :: R) := by
  subst hk
  have hl := mcells_length A
  rw [mcells_append, mcells_append, List.set_append_right _ _ (by omega), List.set_append_right _ _ (by omega), hl]
  have e1 : A.length * 2 - A.length * 2 = 0 := by omega
  have e2 : A.length * 2 + 1 - A.length * 2 = 1 := by omega
  rw [e1, e2]
  rfl
theorem mcopy_set (zs : List (Int × Int)) (n k : Nat) (hn : zs.length = n) (hk : k < n) :
    ((mcells (zs.take k ++ List.replicate (n - k) (0, 0))).set (k * 2) (.int .i64 (zs.getD k (0, 0)).1)).set (k * 2 + 1) (.int .i64 (zs.getD k (0, 0)).2) = mcells (zs.take (k + 1) ++ List.replicate (n - (k + 1)) (0, 0)) := by
  have hr : List.replicate (n - k) ((0 : Int), (0 : Int)) = (0, 0) :: List.replicate (n - (k + 1)) (0, 0) := by
    rw [show n - k = (n - (k + 1)) + 1 from by omega]; rfl
  rw [hr, take_snoc (0, 0) zs k (by omega), List.append_assoc]
  exact mcells_set _ _ _ _ _ (by simp; omega)
theorem mcells_rep (n : Nat) : mcells (List.replicate n (0, 0)) = List.replicate (n * 2) (Value.int .i64 0) := by
  induction n with
  | zero => rfl
  | succ n ih => rw [show (n + 1) * 2 = n * 2 + 1 + 1 from by omega, List.replicate_succ, List.replicate_succ, List.replicate_succ, ← ih]; rfl
theorem mcells_zero (n : Nat) : (madeCells #[Value.int .i64 0, Value.int .i64 0] (n * 2)).toList = mcells (List.replicate n (0, 0)) := by
  rw [mcells_rep]
  refine List.ext_getElem (by simp [madeCells]) fun i h1 h2 => ?_
  rw [List.getElem_replicate]
  have : i % 2 = 0 ∨ i % 2 = 1 := by omega
  rcases this with h | h <;> simp [madeCells, h]

set_option maxHeartbeats 400000 in
theorem toMark (k x : Int) (w : World) :
    Calls Try.prog 93 #[.agg #[.int .i64 k, .int .i64 x]] w fun e w' => e = .returned (.agg #[.int .i64 k, .int .i64 x]) ∧ Below w.heap.size w w' := by
  go_enter Try.func93, Try.ntmps93
  go_wp2
  refine bodyPost_ret (v := .agg #[.int .i64 k, .int .i64 x]) (by simp [results, Try.results93, go_sem]) rfl ⟨rfl, ?_⟩
  exact (((Below.refl _ _).alloc (Nat.le_refl _) _).alloc (by simp) _).alloc (by simp; omega) _

set_option maxHeartbeats 1000000 in
theorem toMarkS (zs : List (Int × Int)) (hsz : zs.length ≤ 1048576) (B : Nat) (a : Value) (w : World) (hx : RdMarks w B a zs) (hB : B ≤ w.heap.size) :
    Calls Try.prog 80 #[a] w fun e w' => ∃ v, e = .returned v ∧ w'.ownsRow w.heap.size 84 2 v zs.length (mcells zs) ∧ Below w.heap.size w w' := by
  obtain ⟨ao, acap, rfl, hal, ham, hi64, hac0⟩ := hx
  obtain ⟨i0, hi, hz0, hz1, hz2⟩ := info_parts Try.infoM
  have hac := Lib.hid hac0; clear hac0 hi64
  unfold maxLen at ham
  generalize hn : zs.length = n at *
  have Hn := Lib.hid hn; clear hn
  go_enter Try.func80, Try.ntmps80
  go_wp2_with (at_make; refine wpList_make_full _ rfl _ _ 31 rfl w.heap.size 84 i0 (.agg #[.int .i64 0, .int .i64 0]) 2 Try.underlying31 hi hz0 hz1 _ _ _ _ n rfl rfl rfl rfl ?b1 ?b2 ?b3 ?_)
  case b1 => rw [hz2]; omega
  case b2 => unfold maxLen; omega
  case b3 => exact Nat.le_refl _
  have Hi := Lib.hid hi; clear hi
  have Hz0 := Lib.hid hz0; clear hz0
  have Hz1 := Lib.hid hz1; clear hz1
  have Hz2 := Lib.hid hz2; clear hz2
  intro w1 hown hgrow
  have hb1 : Below w.heap.size w w1 := (Below.refl _ _).grown hgrow (Nat.le_refl _) (fun k hk => by cases hk)
  clear hgrow
  generalize hg : w.heap.size = g at *
  have Hg := Lib.hid hg; clear hg
  have hown0 : w1.ownsRow g 84 2 (.slice (some ⟨g, 0, none⟩) n n) n (mcells (zs.take 0 ++ List.replicate (n - 0) (0, 0))) := by
    have e : (madeCells #[Value.int .i64 0, Value.int .i64 0] (n * 2)).toList = mcells (zs.take 0 ++ List.replicate (n - 0) (0, 0)) := by
      rw [mcells_zero]; simp
    rw [← e]; simpa [Value.cells] using hown
  clear hown
  go_wp2
  go_loopw [4] (fun i wr => ∃ k : Nat, k ≤ n ∧ i = .int .i64 k ∧ wr.ownsRow g 84 2 (.slice (some ⟨g, 0, none⟩) n n) n (mcells (zs.take k ++ List.replicate (n - k) (0, 0))) ∧ Below g w wr) (fun i _ => n - (intOf i).toNat)
  case atStart => exact ⟨0, Nat.zero_le _, rfl, hown0, hb1⟩
  case round =>
    obtain ⟨k, hk, rfl, hown, hgr⟩ := hrel
    by_cases hlt : k < n
    · obtain ⟨b1, o1, rfl, hbB, hc1, hc2⟩ := hac.out k hlt
      rw [← hgr.cell (p := ⟨b1, _, none⟩) (show b1 < _ by omega)] at hc1 hc2
      have hset := Lib.hid (mcopy_set _ _ _ Hn.out hlt)
      generalize zs.getD k (0, 0) = z at *
      obtain ⟨zk, zx⟩ := z
      dsimp only at hc1 hc2
      go_wp2_with fail
      refine (toMark _ _ _).mono ?_
      rintro e w2 ⟨rfl, hb2⟩
      have hgw : g < wr.heap.size := (hown.lt g rfl).2
      have hown2 : w2.ownsRow g 84 2 (.slice (some ⟨g, 0, none⟩) n n) n (mcells (zs.take k ++ List.replicate (n - k) (0, 0))) := own_below hown hb2
      have hgr2 : Below g w w2 := hgr.trans (hb2.mono (by omega))
      have hfz := hown2.frozenAt
      have hl2 : (mcells (zs.take k ++ List.replicate (n - k) (0, 0))).length = n * 2 := by rw [mcells_length]; simp [Hn.out]; omega
      obtain ⟨u1, hu1⟩ : ∃ u, w2.cell? ⟨g, k * 2, none⟩ = some u := ⟨_, by rw [hown2.cellAt _ (by omega)]; exact List.getElem?_eq_getElem (by omega)⟩
      obtain ⟨u2, hu2⟩ : ∃ u, w2.cell? ⟨g, k * 2 + 1, none⟩ = some u := ⟨_, by rw [hown2.cellAt _ (by omega)]; exact List.getElem?_eq_getElem (by omega)⟩
      have hf1 := hfz (k * 2)
      have hf2 := hfz (k * 2 + 1)
      clear hfz
      have hst1 := (hown2.stored (k * 2) (.int .i64 zk)).1
      have hst2 := (hst1.stored (k * 2 + 1) (.int .i64 zx)).1
      rw [hset.out] at hst2
      have Hst := Lib.hid hst2
      have Hgr : Hid (Below g w ((w2.setCell ⟨g, k * 2, none⟩ (.int .i64 zk)).setCell ⟨g, k * 2 + 1, none⟩ (.int .i64 zx))) := (hgr2.setCell (Nat.le_refl _) _).setCell (Nat.le_refl _) _
      clear hst1 hst2 hown hown2 hgr hgr2 hb2 hl2
      go_wp2
      go_roundw
      case rel => exact ⟨k + 1, by omega, by go_num, Hst.out, Hgr.out⟩
      case measure => simp [intOf]; omega
    · obtain rfl : k = n := by omega
      go_wp2
      go_ret
      refine ⟨_, rfl, ?_, by have := Hg.out; subst this; exact hgr⟩
      have hd : zs.take k = zs := List.take_of_length_le (by rw [Hn.out]; exact Nat.le_refl _)
      rw [hd, Nat.sub_self] at hown
      have := Hg.out; subst this
      simpa using hown

set_option maxRecDepth 100000 in
set_option maxHeartbeats 1000000 in
theorem eqMarkS (xs ys : List (Int × Int)) (B B' : Nat) (a b : Value) (w : World) (hx : RdMarks w B a xs) (hy : RdMarks w B' b ys) (hB : B ≤ w.heap.size) (hB' : B' ≤ w.heap.size) :
    Calls Try.prog 81 #[a, b] w fun e w' => e = .returned (.bool (decide (xs = ys))) ∧ Below w.heap.size w w' := by
  obtain ⟨ao, acap, rfl, hal, ham, hai, hac0⟩ := hx
  obtain ⟨bo, bcap, rfl, hbl, hbm, hbi, hbc0⟩ := hy
  have hac := Lib.hid hac0; clear hac0 hai
  have hbc := Lib.hid hbc0; clear hbc0 hbi
  unfold maxLen at ham hbm
  by_cases hlen : xs.length = ys.length
  · have Hl := Lib.hid hlen
    have hbc1 : Hid (∀ (j : Nat), j < xs.length → ∃ b off, bo = some ⟨b, off, none⟩ ∧ b < B' ∧ w.cell? ⟨b, off + j * 2, none⟩ = some (.int .i64 (ys.getD j (0, 0)).1) ∧ w.cell? ⟨b, off + j * 2 + 1, none⟩ = some (.int .i64 (ys.getD j (0, 0)).2)) := fun j hj => hbc.out j (by omega)
    rw [← hlen] at hbl ⊢
    clear hlen hbc
    obtain ⟨wo, rfl⟩ : ∃ wo : World, wo = w := ⟨_, rfl⟩
    go_enter Try.func81, Try.ntmps81
    go_wp2
    go_loopw [5] (fun i wr => ∃ k : Nat, k ≤ xs.length ∧ i = .int .i64 k ∧ Hid (∀ j, j < k → xs.getD j (0, 0) = ys.getD j (0, 0)) ∧ Below wo.heap.size wo wr) (fun i _ => xs.length - (intOf i).toNat)
    case atStart => exact ⟨0, Nat.zero_le _, rfl, fun j hj => by omega, Below.refl _ _⟩
    case round =>
      obtain ⟨k, hk, rfl, hall, hbel⟩ := hrel
      by_cases hlt : k < xs.length
      · obtain ⟨b1, o1, rfl, hb1, hc1, hc1'⟩ := hac.out k hlt
        obtain ⟨b2, o2, rfl, hb2, hc2, hc2'⟩ := hbc1.out k hlt
        rw [← hbel.cell (p := ⟨b1, _, none⟩) (show b1 < _ by omega)] at hc1 hc1'
        rw [← hbel.cell (p := ⟨b2, _, none⟩) (show b2 < _ by omega)] at hc2 hc2'
        by_cases hne : xs.getD k (0, 0) = ys.getD k (0, 0)
        · have Hne := Lib.hid hne
          rw [← hne] at hc2 hc2'
          clear hne
          generalize hz : xs.getD k (0, 0) = z at *
          obtain ⟨z1, z2⟩ := z
          dsimp only at hc1 hc1' hc2 hc2'
          have Hz := Lib.hid hz; clear hz
          go_wp2_with fail
          go_region_with (go_at_call 94; refine (eqMark_yes _ _ _).mono ?_; rintro e wn ⟨rfl, hbn⟩)
          all_goals
            have hbel2 : Hid (Below wo.heap.size wo wn) := hbel.trans ((below_undrew hbn).mono hbel.size)
            clear hbn
            go_wp2
            go_roundw
            case rel => exact ⟨k + 1, by omega, by go_num, fun j hj => by
              by_cases hjk : j < k
              · exact hall.out j hjk
              · obtain rfl : j = k := by omega
                rw [Hz.out]; exact Hne.out, hbel2.out⟩
            case measure => simp [intOf]; omega
        · have hdec : Hid (decide (xs = ys) = false) := by
            unfold Hid; rw [decide_eq_false_iff_not]; intro e; rw [e] at hne; exact hne rfl
          generalize xs.getD k (0, 0) = z at *
          generalize ys.getD k (0, 0) = z' at *
          obtain ⟨z1, z2⟩ := z
          obtain ⟨y1, y2⟩ := z'
          dsimp only at hc1 hc1' hc2 hc2'
          have Hn : Hid (¬ (z1 = y1 ∧ z2 = y2)) := by intro e; exact hne (by rw [e.1, e.2])
          clear hne
          go_wp2_with fail
          go_region_with (go_at_call 94; refine (eqMark_no _ _ _ _ Hn _).mono ?_; rintro e wn ⟨rfl, hbn⟩)
          all_goals
            have hbel2 : Hid (Below wo.heap.size wo wn) := hbel.trans ((below_undrew hbn).mono hbel.size)
            clear hbn
            go_wp2
            go_ret
            exact ⟨ret_bool (by rw [hdec.out]), hbel2.out⟩
      · obtain rfl : k = xs.length := by omega
        have hdec : Hid (decide (xs = ys) = true) := by
          unfold Hid; rw [decide_eq_true_eq]; exact marks_eq_of Hl.out hall.out
        go_wp2
        go_ret
        exact ⟨ret_bool (by rw [hdec.out]), hbel⟩
  · have hb : ((xs.length : Int) != (ys.length : Int)) = true := by rw [bne_iff_ne]; omega
    have hdec : Hid (decide (xs = ys) = false) := by
      unfold Hid; rw [decide_eq_false_iff_not]; intro e; rw [e] at hlen; exact hlen rfl
    clear hlen
    go_enter Try.func81, Try.ntmps81
    go_wp2
    go_ret
    exact ⟨ret_bool (by rw [hdec.out]), Below.refl _ _⟩
end Go.Proofs.Ytobbbmcppmohoaa

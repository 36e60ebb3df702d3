/- Texts of a proof, merged: ClaimE, SplitX, MarksH, SplitH, ClaimF. -/
import Derived.Test.YtefmoljipbbmmaaDoorMerged7
import Derived.Test.YtefmoljipbbmmaaDoorMerged6
import Derived.Deep.RegionHeld3
import Derived.Deep.Cut
import Derived.Test.YtefmoljipbbmmaaDoorMerged17
/- Contracts of what the laws do with claims. -/
namespace Go.Proofs.YtefmoljipbbmmaaDoor
open Go.RowKit Go.Joins
/-- two blocks laid, one behind the other -/
theorem boxes_new (w : World) (a b c d : Value) (T U : TypeId) : ∃ w2 : World, w2 = (w.alloc (.cells #[a, b] T)).alloc (.cells #[c, d] U) ∧ Box w2 w.heap.size a b ∧ Box w2 (w.heap.size + 1) c d ∧ Below w.heap.size w w2 ∧ w.heap.size + 1 < w2.heap.size := by
  obtain ⟨w1, e1, h1, hb1, hs1⟩ := Box.new w a b T
  obtain ⟨w2, e2, h2, hb2, hs2⟩ := Box.new w1 c d U
  have e : w1.heap.size = w.heap.size + 1 := by rw [e1]; simp
  rw [e] at h2 hs2
  exact ⟨w2, by rw [e2, e1], h1.below hb2, h2, hb1.trans (hb2.mono hb1.size), hs2⟩
set_option maxHeartbeats 1000000 in
theorem eqClaim (k : Int) (ms : List (Int × Int)) (B B' : Nat) (u u' : Value) (w : World) (hr : RdMarks w B u ms) (hr' : RdMarks w B' u' ms) (hB : B ≤ w.heap.size) (hB' : B' ≤ w.heap.size) :
    Calls Tryd.prog 31 #[.agg #[.int .i64 k, u], .agg #[.int .i64 k, u']] w fun e w' => e = .returned (.bool true) ∧ Below w.heap.size w w' := by
  go_enter Tryd.func31, Tryd.ntmps31
  go_upto_region 1 with fail
  obtain ⟨w2, hw2, hx, hy, hb, hs⟩ := boxes_new w (.int .i64 k) u (.int .i64 k) u' TC TC
  rw [← hw2]
  have Hr := Lib.hid (hr.below (w' := w2) (fun q hq => hb.block q (by omega)))
  have Hr' := Lib.hid (hr'.below (w' := w2) (fun q hq => hb.block q (by omega)))
  have hB2 : B ≤ w2.heap.size := by omega
  have hB2' : B' ≤ w2.heap.size := by omega
  obtain ⟨x1, x2, _⟩ := hx
  obtain ⟨y1, y2, _⟩ := hy
  have Hb := Lib.hid hb
  clear hr hr' hb hw2
  go_wp2_with fail
  refine (eqMarkS ms ms _ _ _ _ _ Hr.out Hr'.out hB2 hB2').mono ?_
  rintro e w3 ⟨rfl, hb3⟩
  rw [show decide (ms = ms) = true from by simp]
  have Hb3 := Lib.hid (Hb.out.trans (hb3.mono Hb.out.size)); clear hb3
  go_wp2
  go_ret
  exact ⟨rfl, Hb3.out⟩
set_option maxHeartbeats 1000000 in
theorem szClaim (k : Int) (ao : Option Addr) (n cap : Nat) (hn : (n : Int) ≤ 9223372036854775807) (w : World) :
    Calls Tryd.prog 22 #[.agg #[.int .i64 k, .slice ao n cap], .int .i64 1048576] w fun e w' => e = .returned (.int .i64 (if n ≤ 1048576 then 1048576 - (n : Int) else -1)) ∧ Below w.heap.size w w' := by
  have hv : (if n ≤ 1048576 then 1048576 - (n : Int) else -1) = 1048576 - (n : Int) ∧ n ≤ 1048576 ∨ (if n ≤ 1048576 then 1048576 - (n : Int) else -1) = -1 := by
    by_cases h : n ≤ 1048576
    · left; rw [if_pos h]; exact ⟨rfl, h⟩
    · right; rw [if_neg h]
  have Hz := Lib.hid (fun w => szMarkS ao n cap hn w)
  generalize (if n ≤ 1048576 then 1048576 - (n : Int) else -1) = V at *
  have hV : ¬ V < 0 ∨ V = -1 := by
    rcases hv with ⟨rfl, h⟩ | rfl
    · left; omega
    · right; rfl
  clear hv
  have hbw : ∀ o, Below w.heap.size w (w.alloc o) := fun o => (Below.refl _ _).alloc (Nat.le_refl _) o
  rcases hV with hV | rfl
  all_goals
    go_enter Tryd.func22, Tryd.ntmps22
    go_wp2_with fail
    refine (Hz.out _).mono ?_
    rintro e w' ⟨rfl, rfl⟩
    go_wp2
    go_ret
    exact ⟨rfl, hbw _⟩
set_option maxHeartbeats 2000000 in
theorem toClaim (k : Int) (zs : List (Int × Int)) (hsz : zs.length ≤ 1048576) (B : Nat) (a : Value) (w : World) (hx : RdMarks w B a zs) (hB : B ≤ w.heap.size) :
    Calls Tryd.prog 26 #[.agg #[.int .i64 k, a]] w fun e w' => ∃ v, e = .returned (.agg #[.int .i64 k, v]) ∧ w'.ownsRow w.heap.size TM 2 v zs.length (mcells zs) ∧ Below w.heap.size w w' := by
  go_enter Tryd.func26, Tryd.ntmps26
  go_upto_region 1 with fail
  obtain ⟨w2, hw2, hx2, hy2, hb2, hs2⟩ := boxes_new w (.int .i64 k) a (.int .i64 0) (.slice none 0 0) 51 TC
  rw [← hw2]
  clear hw2
  go_upto_region 2 with fail
  obtain ⟨w3, hw3, hz3, hb3, hs3⟩ := Box.new w2 (.int .i64 0) (.slice none 0 0) TC
  rw [← hw3]
  clear hw3
  have hx3 := hx2.below hb3
  have hy3 := hy2.below hb3
  obtain ⟨w4, e4, hz4, hg4⟩ := hz3.set0 (.int .i64 k)
  have hx4 := hx3.grown hg4 (by simp; omega)
  have hy4 := hy3.grown hg4 (by simp; omega)
  have hb04 : Below w.heap.size w w4 := (hb2.trans (hb3.mono hb2.size)).grown hg4 (by have := hb2.size; have := hb3.size; omega) (fun q hq => by cases hq; exact hb2.size)
  have Hr4 := Lib.hid (hx.below (w' := w4) (fun q hq => hb04.block q (by omega)))
  have hB4 : B ≤ w4.heap.size := by have := hb04.size; omega
  have Hx4 := Lib.hid hx4
  have Hy4 := Lib.hid hy4
  have Hz4 := Lib.hid hz4
  have E4 := Lib.hid e4
  have Hb4 := Lib.hid hb04
  have hs4 := hg4.size
  obtain ⟨z1, z2, z3, z4, z5⟩ := hz3
  obtain ⟨x1, x2, x3, x4, x5⟩ := hx3
  clear hx hx2 hy2 hy3 hx4 hy4 hz4 hg4 e4 hb04 hb2 hb3
  go_upto_region 3 with fail
  rw [← E4.out]
  clear z1 z2 z3 z4 z5 x1 x2 x3 x4 x5
  have x1 := Hx4.out.1
  have x2 := Hx4.out.2.1
  go_wp2_with fail
  refine (toMarkS zs hsz _ _ _ Hr4.out hB4).mono ?_
  rintro e w5 ⟨v, rfl, hown, hb5⟩
  obtain ⟨vo, vc, hv⟩ := own_len hown
  subst hv
  have hz5 := Hz4.out.below hb5
  have hy5 := Hy4.out.below hb5
  have hb05 := Hb4.out.trans (hb5.mono Hb4.out.size)
  obtain ⟨w6, e6, hz6, hg6⟩ := hz5.set1 (.slice vo zs.length vc)
  have hs5 := hb5.size
  have hy6 := hy5.grown hg6 (by simp; omega)
  have hown6 := own_row hown hg6 (by omega)
  obtain ⟨w7, e7, hy7, hg7⟩ := hy6.set (.int .i64 k) (.slice vo zs.length vc)
  have hown7 := own_row hown6 hg7 (by omega)
  have hout := (hb05.grown hg6 hb05.size (fun q hq => by cases hq; omega)).grown hg7 (by have := hg6.size; have := hb05.size; omega) (fun q hq => by cases hq; omega)
  have Hout := Lib.hid hout
  have Hown := Lib.hid (own_mono (base := w.heap.size) hown7 (by have := Hb4.out.size; omega))
  have E6 := Lib.hid e6
  have E7 := Lib.hid e7
  have Hy7 := Lib.hid hy7
  obtain ⟨y1, y2, y3, y4, y5⟩ := hy6
  obtain ⟨u1, u2, u3, u4, u5⟩ := hz6
  obtain ⟨z1, z2, z3, z4, z5⟩ := hz5
  clear hb5 hb05 hown hown6 hown7 hout hg6 hg7 e6 e7 hy7 hy5 x1 x2
  go_upto_region 4 with fail
  rw [← E6.out]
  clear z1 z2 z3 z4 z5
  go_wp2
  rw [← E7.out]
  obtain ⟨q1, q2, _⟩ := Hy7.out
  exact bodyPost_ret (v := .agg #[.int .i64 k, .slice vo zs.length vc]) (by simp [results, Tryd.results26, go_sem, q1, q2]) rfl ⟨_, rfl, Hown.out, Hout.out⟩
end Go.Proofs.YtefmoljipbbmmaaDoor
/- Contracts over rows of splits: the exact laws' copies and comparisons. -/
namespace Go.Proofs.YtefmoljipbbmmaaDoor
open Go.RowKit Go.Joins
theorem spl_take_snoc (l : List Sp3) (k : Nat) (h : k < l.length) : l.take (k + 1) = l.take k ++ [l.getD k sp0] := by
  rw [List.take_succ_eq_append_getElem h]
  simp [List.getD, h]
theorem splits_eq_of {xs ys : List Sp3} (hl : xs.length = ys.length) (h : ∀ j, j < xs.length → xs.getD j sp0 = ys.getD j sp0) : xs = ys := by
  refine List.ext_getElem hl fun i h1 h2 => ?_
  have := h i h1
  simpa [List.getD, h1, h2] using this
theorem scopy_set (zs : List Sp3) (n k : Nat) (hn : zs.length = n) (hk : k < n) :
    (((scells (zs.take k ++ List.replicate (n - k) sp0)).set (k * 3) (.int .i64 (zs.getD k sp0).1)).set (k * 3 + 1) (.int .i64 (zs.getD k sp0).2.1)).set (k * 3 + 2) (.int .i64 (zs.getD k sp0).2.2) = scells (zs.take (k + 1) ++ List.replicate (n - (k + 1)) sp0) := by
  have hr : List.replicate (n - k) sp0 = sp0 :: List.replicate (n - (k + 1)) sp0 := by
    rw [show n - k = (n - (k + 1)) + 1 from by omega]; rfl
  rw [hr, spl_take_snoc zs k (by omega), List.append_assoc]
  exact scells_set _ _ _ _ _ (by simp; omega)
theorem scells_rep (n : Nat) : scells (List.replicate n sp0) = List.replicate (n * 3) (Value.int .i64 0) := by
  induction n with
  | zero => rfl
  | succ n ih => rw [show (n + 1) * 3 = n * 3 + 1 + 1 + 1 from by omega, List.replicate_succ, List.replicate_succ, List.replicate_succ, List.replicate_succ, ← ih]; rfl
theorem scells_zero (n : Nat) : (madeCells #[Value.int .i64 0, Value.int .i64 0, Value.int .i64 0] (n * 3)).toList = scells (List.replicate n sp0) := by
  rw [scells_rep]
  refine List.ext_getElem (by simp [madeCells]) fun i h1 h2 => ?_
  rw [List.getElem_replicate]
  have : i % 3 = 0 ∨ i % 3 = 1 ∨ i % 3 = 2 := by omega
  rcases this with h | h | h <;> simp [madeCells, h]

set_option maxHeartbeats 400000 in
theorem szSplitS (ao : Option Addr) (n cap : Nat) (left : Int) (hn : (n : Int) ≤ 9223372036854775807) (h0 : 0 ≤ left) (hl : left ≤ 1048576) (w : World) :
    Calls Tryd.prog 23 #[.slice ao n cap, .int .i64 left] w fun e w' => (∃ r : Int, e = .returned (.int .i64 r) ∧ (r < 0 ∨ (0 ≤ r ∧ r ≤ left ∧ n ≤ 1048576))) ∧ w = w' := by
  by_cases h : (n : Int) ≤ left
  · have h' : ¬ left - (n : Int) < 0 := by omega
    go_enter Tryd.func23, Tryd.ntmps23
    go_wp2
    go_ret
    exact ⟨⟨_, rfl, .inr (by omega)⟩, rfl⟩
  · have h' : left - (n : Int) < 0 := by omega
    go_enter Tryd.func23, Tryd.ntmps23
    go_wp2
    go_ret
    exact ⟨⟨_, rfl, .inl (by omega)⟩, rfl⟩
set_option maxHeartbeats 400000 in
theorem eqSplit_yes (k x y : Int) (w : World) :
    Calls Tryd.prog 52 #[.agg #[.int .i64 k, .int .i64 x, .int .i64 y], .agg #[.int .i64 k, .int .i64 x, .int .i64 y]] w fun e w' => e = .returned (.bool true) ∧ Below w.heap.size w w' := by
  go_enter Tryd.func52, Tryd.ntmps52
  go_wp2
  go_ret
  exact ⟨rfl, ((Below.refl _ _).alloc (Nat.le_refl _) _).alloc (by simp) _⟩
set_option maxHeartbeats 400000 in
theorem toSplit (k x y : Int) (w : World) :
    Calls Tryd.prog 44 #[.agg #[.int .i64 k, .int .i64 x, .int .i64 y]] w fun e w' => e = .returned (.agg #[.int .i64 k, .int .i64 x, .int .i64 y]) ∧ Below w.heap.size w w' := by
  go_enter Tryd.func44, Tryd.ntmps44
  go_wp2
  refine bodyPost_ret (v := .agg #[.int .i64 k, .int .i64 x, .int .i64 y]) (by simp [results, Tryd.results44, go_sem]) rfl ⟨rfl, ?_⟩
  exact (((Below.refl _ _).alloc (Nat.le_refl _) _).alloc (by simp) _).alloc (by simp; omega) _
set_option maxHeartbeats 1000000 in
theorem toSplitS (zs : List Sp3) (hsz : zs.length ≤ 1048576) (B : Nat) (a : Value) (w : World) (hx : RdSplits w B a zs) (hB : B ≤ w.heap.size) :
    Calls Tryd.prog 28 #[a] w fun e w' => ∃ v, e = .returned v ∧ w'.ownsRow w.heap.size 85 3 v zs.length (scells zs) ∧ Below w.heap.size w w' := by
  obtain ⟨ao, acap, rfl, hal, ham, hi64, hac0⟩ := hx
  obtain ⟨i0, hi, hz0, hz1, hz2⟩ := info_parts Tryd.infoSp
  have hac := Lib.hid hac0; clear hac0 hi64
  unfold maxLen at ham
  generalize hn : zs.length = n at *
  have Hn := Lib.hid hn; clear hn
  go_enter Tryd.func28, Tryd.ntmps28
  go_wp2_with (at_make; refine wpList_make_full _ rfl _ _ 35 rfl w.heap.size 85 i0 (.agg #[.int .i64 0, .int .i64 0, .int .i64 0]) 3 Tryd.underlying35 hi hz0 hz1 _ _ _ _ n rfl rfl rfl rfl ?b1 ?b2 ?b3 ?_)
  case b1 => rw [hz2]; omega
  case b2 => unfold maxLen; omega
  case b3 => exact Nat.le_refl _
  have Hi := Lib.hid hi; clear hi
  have Hz0 := Lib.hid hz0; clear hz0
  have Hz1 := Lib.hid hz1; clear hz1
  have Hz2 := Lib.hid hz2; clear hz2
  intro w1 hown hgrow
  have hb1 : Below w.heap.size w w1 := (Below.refl _ _).grown hgrow (Nat.le_refl _) (fun k hk => by cases hk)
  clear hgrow
  generalize hg : w.heap.size = g at *
  have Hg := Lib.hid hg; clear hg
  have hown0 : w1.ownsRow g 85 3 (.slice (some ⟨g, 0, none⟩) n n) n (scells (zs.take 0 ++ List.replicate (n - 0) sp0)) := by
    have e : (madeCells #[Value.int .i64 0, Value.int .i64 0, Value.int .i64 0] (n * 3)).toList = scells (zs.take 0 ++ List.replicate (n - 0) sp0) := by
      rw [scells_zero]; simp
    rw [← e]; simpa [Value.cells] using hown
  clear hown
  go_wp2
  go_loopw [4] (fun i wr => ∃ k : Nat, k ≤ n ∧ i = .int .i64 k ∧ wr.ownsRow g 85 3 (.slice (some ⟨g, 0, none⟩) n n) n (scells (zs.take k ++ List.replicate (n - k) sp0)) ∧ Below g w wr) (fun i _ => n - (intOf i).toNat)
  case atStart => exact ⟨0, Nat.zero_le _, rfl, hown0, hb1⟩
  case round =>
    obtain ⟨k, hk, rfl, hown, hgr⟩ := hrel
    by_cases hlt : k < n
    · obtain ⟨b1, o1, rfl, hbB, hc1, hc2, hc3⟩ := hac.out k hlt
      rw [← hgr.cell (p := ⟨b1, _, none⟩) (show b1 < _ by omega)] at hc1 hc2 hc3
      have hset := Lib.hid (scopy_set _ _ _ Hn.out hlt)
      generalize zs.getD k sp0 = z at *
      obtain ⟨zk, zx, zy⟩ := z
      dsimp only at hc1 hc2 hc3
      go_wp2_with fail
      refine (toSplit _ _ _ _).mono ?_
      rintro e w2 ⟨rfl, hb2⟩
      have hgw : g < wr.heap.size := (hown.lt g rfl).2
      have hown2 : w2.ownsRow g 85 3 (.slice (some ⟨g, 0, none⟩) n n) n (scells (zs.take k ++ List.replicate (n - k) sp0)) := own_below hown hb2
      have hgr2 : Below g w w2 := hgr.trans (hb2.mono (by omega))
      have hfz := hown2.frozenAt
      have hl2 : (scells (zs.take k ++ List.replicate (n - k) sp0)).length = n * 3 := by rw [scells_length]; simp [Hn.out]; omega
      obtain ⟨u1, hu1⟩ : ∃ u, w2.cell? ⟨g, k * 3, none⟩ = some u := ⟨_, by rw [hown2.cellAt _ (by omega)]; exact List.getElem?_eq_getElem (by omega)⟩
      obtain ⟨u2, hu2⟩ : ∃ u, w2.cell? ⟨g, k * 3 + 1, none⟩ = some u := ⟨_, by rw [hown2.cellAt _ (by omega)]; exact List.getElem?_eq_getElem (by omega)⟩
      obtain ⟨u3, hu3⟩ : ∃ u, w2.cell? ⟨g, k * 3 + 2, none⟩ = some u := ⟨_, by rw [hown2.cellAt _ (by omega)]; exact List.getElem?_eq_getElem (by omega)⟩
      have hf1 := hfz (k * 3)
      have hf2 := hfz (k * 3 + 1)
      have hf3 := hfz (k * 3 + 2)
      clear hfz
      have hst1 := (hown2.stored (k * 3) (.int .i64 zk)).1
      have hst2 := (hst1.stored (k * 3 + 1) (.int .i64 zx)).1
      have hst3 := (hst2.stored (k * 3 + 2) (.int .i64 zy)).1
      rw [hset.out] at hst3
      have Hst := Lib.hid hst3
      have Hgr : Hid (Below g w (((w2.setCell ⟨g, k * 3, none⟩ (.int .i64 zk)).setCell ⟨g, k * 3 + 1, none⟩ (.int .i64 zx)).setCell ⟨g, k * 3 + 2, none⟩ (.int .i64 zy))) := ((hgr2.setCell (Nat.le_refl _) _).setCell (Nat.le_refl _) _).setCell (Nat.le_refl _) _
      clear hst1 hst2 hst3 hown hown2 hgr hgr2 hb2 hl2
      go_wp2
      go_roundw
      case rel => exact ⟨k + 1, by omega, by go_num, Hst.out, Hgr.out⟩
      case measure => simp [intOf]; omega
    · obtain rfl : k = n := by omega
      go_wp2
      go_ret
      refine ⟨_, rfl, ?_, by have := Hg.out; subst this; exact hgr⟩
      have hd : zs.take k = zs := List.take_of_length_le (by rw [Hn.out]; exact Nat.le_refl _)
      rw [hd, Nat.sub_self] at hown
      have := Hg.out; subst this
      simpa using hown
set_option maxRecDepth 100000 in
set_option maxHeartbeats 1000000 in
theorem eqSplitS (xs : List Sp3) (B B' : Nat) (a b : Value) (w : World) (hx : RdSplits w B a xs) (hy : RdSplits w B' b xs) (hB : B ≤ w.heap.size) (hB' : B' ≤ w.heap.size) :
    Calls Tryd.prog 33 #[a, b] w fun e w' => e = .returned (.bool true) ∧ Below w.heap.size w w' := by
  obtain ⟨ao, acap, rfl, hal, ham, hai, hac0⟩ := hx
  obtain ⟨bo, bcap, rfl, hbl, hbm, hbi, hbc0⟩ := hy
  have hac := Lib.hid hac0; clear hac0 hai
  have hbc := Lib.hid hbc0; clear hbc0 hbi
  unfold maxLen at ham hbm
  generalize hn : xs.length = n at *
  clear hn
  obtain ⟨wo, rfl⟩ : ∃ wo : World, wo = w := ⟨_, rfl⟩
  go_enter Tryd.func33, Tryd.ntmps33
  go_wp2
  go_loopw [5] (fun i wr => ∃ k : Nat, k ≤ n ∧ i = .int .i64 k ∧ Below wo.heap.size wo wr) (fun i _ => n - (intOf i).toNat)
  case atStart => exact ⟨0, Nat.zero_le _, rfl, Below.refl _ _⟩
  case round =>
    obtain ⟨k, hk, rfl, hbel⟩ := hrel
    by_cases hlt : k < n
    · obtain ⟨b1, o1, rfl, hb1, hc1, hc2, hc3⟩ := hac.out k hlt
      obtain ⟨b2, o2, rfl, hb2, hd1, hd2, hd3⟩ := hbc.out k hlt
      rw [← hbel.cell (p := ⟨b1, _, none⟩) (show b1 < _ by omega)] at hc1 hc2 hc3
      rw [← hbel.cell (p := ⟨b2, _, none⟩) (show b2 < _ by omega)] at hd1 hd2 hd3
      generalize xs.getD k sp0 = z at *
      obtain ⟨z1, z2, z3⟩ := z
      dsimp only at hc1 hc2 hc3 hd1 hd2 hd3
      go_wp2_with fail
      go_region_with (go_at_call 52; refine (eqSplit_yes _ _ _ _).mono ?_; rintro e wn ⟨rfl, hbn⟩)
      all_goals
        have hbel2 : Hid (Below wo.heap.size wo wn) := hbel.trans ((below_undrew hbn).mono hbel.size)
        clear hbn
        go_wp2
        go_roundw
        case rel => exact ⟨k + 1, by omega, by go_num, hbel2.out⟩
        case measure => simp [intOf]; omega
    · obtain rfl : k = n := by omega
      go_wp2
      go_ret
      exact ⟨rfl, hbel⟩
set_option maxHeartbeats 1000000 in
theorem eqProof (k : Int) (sp : List Sp3) (B B' : Nat) (u u' : Value) (w : World) (hr : RdSplits w B u sp) (hr' : RdSplits w B' u' sp) (hB : B ≤ w.heap.size) (hB' : B' ≤ w.heap.size) :
    Calls Tryd.prog 15 #[.agg #[.int .i64 k, u], .agg #[.int .i64 k, u']] w fun e w' => e = .returned (.bool true) ∧ Below w.heap.size w w' := by
  go_enter Tryd.func15, Tryd.ntmps15
  go_upto_region 1 with fail
  obtain ⟨w2, hw2, hx, hy, hb, hs⟩ := boxes_new w (.int .i64 k) u (.int .i64 k) u' 37 37
  rw [← hw2]
  have Hr := Lib.hid (hr.below (w' := w2) (fun q hq => hb.block q (by omega)))
  have Hr' := Lib.hid (hr'.below (w' := w2) (fun q hq => hb.block q (by omega)))
  have hB2 : B ≤ w2.heap.size := by omega
  have hB2' : B' ≤ w2.heap.size := by omega
  obtain ⟨x1, x2, _⟩ := hx
  obtain ⟨y1, y2, _⟩ := hy
  have Hb := Lib.hid hb
  clear hr hr' hb hw2
  go_wp2_with fail
  refine (eqSplitS sp _ _ _ _ _ Hr.out Hr'.out hB2 hB2').mono ?_
  rintro e w3 ⟨rfl, hb3⟩
  have Hb3 := Lib.hid (Hb.out.trans (hb3.mono Hb.out.size)); clear hb3
  go_wp2
  go_ret
  exact ⟨rfl, Hb3.out⟩
set_option maxHeartbeats 1000000 in
theorem szProof (k : Int) (ao : Option Addr) (n cap : Nat) (left : Int) (hn : (n : Int) ≤ 9223372036854775807) (h0 : 0 ≤ left) (hl : left ≤ 1048576) (w : World) :
    Calls Tryd.prog 7 #[.agg #[.int .i64 k, .slice ao n cap], .int .i64 left] w fun e w' => (∃ r : Int, e = .returned (.int .i64 r) ∧ (r < 0 ∨ (0 ≤ r ∧ n ≤ 1048576))) ∧ Below w.heap.size w w' := by
  have Hz := Lib.hid (fun w => szSplitS ao n cap left hn h0 hl w)
  have hbw : ∀ o, Below w.heap.size w (w.alloc o) := fun o => (Below.refl _ _).alloc (Nat.le_refl _) o
  go_enter Tryd.func7, Tryd.ntmps7
  go_wp2_with fail
  refine (Hz.out _).mono ?_
  rintro e w' ⟨⟨r, rfl, hr⟩, rfl⟩
  by_cases hneg : r < 0
  · clear hr
    go_wp2
    go_ret
    exact ⟨⟨_, rfl, .inl (by omega)⟩, hbw _⟩
  · have hr' : 0 ≤ r ∧ n ≤ 1048576 := by rcases hr with h | h; omega; exact ⟨h.1, h.2.2⟩
    have Hr := Lib.hid hr'
    clear hr hr'
    go_wp2
    go_ret
    exact ⟨⟨_, rfl, .inr Hr.out⟩, hbw _⟩
set_option maxHeartbeats 2000000 in
theorem toProof (k : Int) (zs : List Sp3) (hsz : zs.length ≤ 1048576) (B : Nat) (a : Value) (w : World) (hx : RdSplits w B a zs) (hB : B ≤ w.heap.size) :
    Calls Tryd.prog 11 #[.agg #[.int .i64 k, a]] w fun e w' => ∃ v, e = .returned (.agg #[.int .i64 k, v]) ∧ w'.ownsRow w.heap.size 85 3 v zs.length (scells zs) ∧ Below w.heap.size w w' := by
  go_enter Tryd.func11, Tryd.ntmps11
  go_upto_region 1 with fail
  obtain ⟨w2, hw2, hx2, hy2, hb2, hs2⟩ := boxes_new w (.int .i64 k) a (.int .i64 0) (.slice none 0 0) 26 37
  rw [← hw2]
  clear hw2
  go_upto_region 2 with fail
  obtain ⟨w3, hw3, hz3, hb3, hs3⟩ := Box.new w2 (.int .i64 0) (.slice none 0 0) 37
  rw [← hw3]
  clear hw3
  have hx3 := hx2.below hb3
  have hy3 := hy2.below hb3
  obtain ⟨w4, e4, hz4, hg4⟩ := hz3.set0 (.int .i64 k)
  have hx4 := hx3.grown hg4 (by simp; omega)
  have hy4 := hy3.grown hg4 (by simp; omega)
  have hb04 : Below w.heap.size w w4 := (hb2.trans (hb3.mono hb2.size)).grown hg4 (by have := hb2.size; have := hb3.size; omega) (fun q hq => by cases hq; exact hb2.size)
  have Hr4 := Lib.hid (hx.below (w' := w4) (fun q hq => hb04.block q (by omega)))
  have hB4 : B ≤ w4.heap.size := by have := hb04.size; omega
  have Hx4 := Lib.hid hx4
  have Hy4 := Lib.hid hy4
  have Hz4 := Lib.hid hz4
  have E4 := Lib.hid e4
  have Hb4 := Lib.hid hb04
  have hs4 := hg4.size
  obtain ⟨z1, z2, z3, z4, z5⟩ := hz3
  obtain ⟨x1, x2, x3, x4, x5⟩ := hx3
  clear hx hx2 hy2 hy3 hx4 hy4 hz4 hg4 e4 hb04 hb2 hb3
  go_upto_region 3 with fail
  rw [← E4.out]
  clear z1 z2 z3 z4 z5 x1 x2 x3 x4 x5
  have x1 := Hx4.out.1
  have x2 := Hx4.out.2.1
  go_wp2_with fail
  refine (toSplitS zs hsz _ _ _ Hr4.out hB4).mono ?_
  rintro e w5 ⟨v, rfl, hown, hb5⟩
  obtain ⟨vo, vc, hv⟩ := own_len hown
  subst hv
  have hz5 := Hz4.out.below hb5
  have hy5 := Hy4.out.below hb5
  have hb05 := Hb4.out.trans (hb5.mono Hb4.out.size)
  obtain ⟨w6, e6, hz6, hg6⟩ := hz5.set1 (.slice vo zs.length vc)
  have hs5 := hb5.size
  have hy6 := hy5.grown hg6 (by simp; omega)
  have hown6 := own_row hown hg6 (by omega)
  obtain ⟨w7, e7, hy7, hg7⟩ := hy6.set (.int .i64 k) (.slice vo zs.length vc)
  have hown7 := own_row hown6 hg7 (by omega)
  have hout := (hb05.grown hg6 hb05.size (fun q hq => by cases hq; omega)).grown hg7 (by have := hg6.size; have := hb05.size; omega) (fun q hq => by cases hq; omega)
  have Hout := Lib.hid hout
  have Hown := Lib.hid (own_mono (base := w.heap.size) hown7 (by have := Hb4.out.size; omega))
  have E6 := Lib.hid e6
  have E7 := Lib.hid e7
  have Hy7 := Lib.hid hy7
  obtain ⟨y1, y2, y3, y4, y5⟩ := hy6
  obtain ⟨u1, u2, u3, u4, u5⟩ := hz6
  obtain ⟨z1, z2, z3, z4, z5⟩ := hz5
  clear hb5 hb05 hown hown6 hown7 hout hg6 hg7 e6 e7 hy7 hy5 x1 x2
  go_upto_region 4 with fail
  rw [← E6.out]
  clear z1 z2 z3 z4 z5
  go_wp2
  rw [← E7.out]
  obtain ⟨q1, q2, _⟩ := Hy7.out
  exact bodyPost_ret (v := .agg #[.int .i64 k, .slice vo zs.length vc]) (by simp [results, Tryd.results11, go_sem, q1, q2]) rfl ⟨_, rfl, Hown.out, Hout.out⟩
end Go.Proofs.YtefmoljipbbmmaaDoor
/- Contracts over rows of marks: numbers laid into a row, and held there. -/
namespace Go.Proofs.YtefmoljipbbmmaaDoor
open Go.RowKit Go.Joins

/-- numbers laid one behind the other, two a mark -/
def lay (k0 n : Nat) : List (Int × Int) := (List.range n).map fun j => (((k0 + j * 2 : Nat) : Int), ((k0 + j * 2 + 1 : Nat) : Int))
theorem lay_length (k0 n : Nat) : (lay k0 n).length = n := by simp [lay]
theorem lay_succ (k0 n : Nat) : lay k0 (n + 1) = lay k0 n ++ [(((k0 + n * 2 : Nat) : Int), ((k0 + n * 2 + 1 : Nat) : Int))] := by simp [lay, List.range_succ]
theorem lay_get (k0 n j : Nat) (h : j < n) : (lay k0 n).getD j (0, 0) = (((k0 + j * 2 : Nat) : Int), ((k0 + j * 2 + 1 : Nat) : Int)) := by simp [lay, List.getD, h]
theorem lay_set (zs : List (Int × Int)) (k0 k : Nat) (hk : k < zs.length) :
    ((mcells (lay k0 k ++ zs.drop k)).set (k * 2) (.int .i64 ((k0 + k * 2 : Nat) : Int))).set (k * 2 + 1) (.int .i64 ((k0 + k * 2 + 1 : Nat) : Int)) = mcells (lay k0 (k + 1) ++ zs.drop (k + 1)) := by
  rw [List.drop_eq_getElem_cons hk, lay_succ, List.append_assoc]
  exact mcells_set (lay k0 k) (zs.drop (k + 1)) zs[k] (((k0 + k * 2 : Nat) : Int), ((k0 + k * 2 + 1 : Nat) : Int)) k (lay_length _ _)
theorem lay_I64 {k0 n : Nat} (h : k0 + n * 2 ≤ 4611686018427387904) : I64s (lay k0 n) := by
  intro m hm
  obtain ⟨j, hj, rfl⟩ := List.mem_map.1 hm
  have := List.mem_range.1 hj
  unfold I64
  dsimp only
  omega
attribute [local irreducible] lay


set_option maxHeartbeats 1000000 in
theorem markMarkS (zs : List (Int × Int)) (k0 : Nat) (hk0 : zs.length * 2 + k0 ≤ 4611686018427387904) (base : Nat) (a : Value) (w : World) (hx : w.ownsRow base TM 2 a zs.length (mcells zs)) :
    Calls Tryd.prog 19 #[a, .int .i64 k0] w fun e w' => e = .returned (.int .i64 ((k0 + zs.length * 2 : Nat) : Int)) ∧
      w'.ownsRow base TM 2 a zs.length (mcells (lay k0 zs.length)) ∧ w.grownBy w' a.ownBlock := by
  have hxl := mcells_length zs
  generalize hn : zs.length = n at *
  by_cases h0 : n = 0
  · subst h0
    have hz : zs = [] := List.eq_nil_of_length_eq_zero hn
    subst hz
    have hlay : lay k0 0 = [] := List.eq_nil_of_length_eq_zero (lay_length k0 0)
    have Hlay := Lib.hid hlay; clear hlay
    rcases ownsRow_forms hx with ⟨rfl, _⟩ | ⟨g, cap, rfl⟩
    all_goals
      clear hn hxl
      go_enter Tryd.func19, Tryd.ntmps19
      go_wp2
      go_loop [1, 5] (fun q i => q = .int .i64 k0 ∧ i = .int .i64 (0 : Nat)) (fun _ _ => 0)
      case atStart => exact ⟨rfl, rfl⟩
      case round =>
        obtain ⟨rfl, rfl⟩ := hrel
        go_wp2
        go_ret
        exact ⟨rfl, by rw [Hlay.out]; exact hx, World.grownBy.refl _ _⟩
  · obtain ⟨g, cap, rfl⟩ := ownsRow_form hx (by omega)
    have hnm : n ≤ 4611686018427387904 := by omega
    have Hn := Lib.hid hn; clear hn
    have Hxl := Lib.hid hxl; clear hxl
    go_enter Tryd.func19, Tryd.ntmps19
    go_wp2
    go_loopw [1, 5] (fun q i wr => ∃ k : Nat, k ≤ n ∧ i = .int .i64 k ∧ q = .int .i64 ((k0 + k * 2 : Nat) : Int) ∧
        wr.ownsRow base TM 2 (.slice (some ⟨g, 0, none⟩) n cap) n (mcells (lay k0 k ++ zs.drop k)) ∧ w.grownBy wr (some g)) (fun _ i _ => n - (intOf i).toNat)
    case atStart => exact ⟨0, Nat.zero_le _, rfl, rfl, by rw [show lay k0 0 = [] from List.eq_nil_of_length_eq_zero (lay_length k0 0)]; simpa using hx, World.grownBy.refl _ _⟩
    case round =>
      obtain ⟨k, hk, rfl, rfl, hown, hgr⟩ := hrel
      by_cases hlt : k < n
      · have hq : k0 + k * 2 + 1 ≤ 4611686018427387904 := by omega
        have Hq : Hid (((k0 + k * 2 : Nat) : Int) + 1 + 1 = ((k0 + (k + 1) * 2 : Nat) : Int)) := by unfold Hid; omega
        have hl2 : (mcells (lay k0 k ++ zs.drop k)).length = n * 2 := by rw [mcells_length]; simp [lay_length, Hn.out]; omega
        have hset := Lib.hid (lay_set zs k0 k (by rw [Hn.out]; exact hlt))
        have e2 : ((k0 + k * 2 + 1 : Nat) : Int) = ((k0 + k * 2 : Nat) : Int) + 1 := by omega
        have hset' := hset.out
        rw [e2] at hset'
        have Hset := Lib.hid hset'
        clear hset' hset e2
        generalize k0 + k * 2 = q at *
        have h1 := hown.stored (k * 2) (.int .i64 (q : Int))
        have h2 := h1.1.stored (k * 2 + 1) (.int .i64 ((q : Int) + 1))
        have hf1 := hown.frozenAt (k * 2)
        have hf2 := hown.frozenAt (k * 2 + 1)
        obtain ⟨u1, hu1⟩ : ∃ u, wr.cell? ⟨g, k * 2, none⟩ = some u := ⟨_, by rw [hown.cellAt _ (by omega)]; exact List.getElem?_eq_getElem (by omega)⟩
        obtain ⟨u2, hu2⟩ : ∃ u, wr.cell? ⟨g, k * 2 + 1, none⟩ = some u := ⟨_, by rw [hown.cellAt _ (by omega)]; exact List.getElem?_eq_getElem (by omega)⟩
        have h21 := h2.1
        rw [Hset.out] at h21
        have Hst := Lib.hid h21
        have Hgr := Lib.hid (grownBy_trans hgr (grownBy_trans h1.2 h2.2))
        clear h1 h2 h21 hown hgr hl2
        go_wp2
        go_roundw
        case rel => exact ⟨k + 1, by omega, by go_num, by rw [← Hq.out], Hst.out, Hgr.out⟩
        case measure => simp [intOf]; omega
      · obtain rfl : k = n := by omega
        go_wp2
        go_ret
        refine ⟨rfl, ?_, hgr⟩
        have hd : zs.drop k = [] := List.drop_eq_nil_of_le (by rw [Hn.out]; exact Nat.le_refl _)
        rw [hd, List.append_nil] at hown
        exact hown
end Go.Proofs.YtefmoljipbbmmaaDoor
/- Contracts over rows of splits: numbers laid into a row, and held there; of proofs, too. -/
namespace Go.Proofs.YtefmoljipbbmmaaDoor
open Go.RowKit Go.Joins
/-- numbers laid one behind the other, three a split -/
def lay3 (k0 n : Nat) : List Sp3 := (List.range n).map fun j => (((k0 + j * 3 : Nat) : Int), ((k0 + j * 3 + 1 : Nat) : Int), ((k0 + j * 3 + 2 : Nat) : Int))
theorem lay3_length (k0 n : Nat) : (lay3 k0 n).length = n := by simp [lay3]
theorem lay3_succ (k0 n : Nat) : lay3 k0 (n + 1) = lay3 k0 n ++ [(((k0 + n * 3 : Nat) : Int), ((k0 + n * 3 + 1 : Nat) : Int), ((k0 + n * 3 + 2 : Nat) : Int))] := by simp [lay3, List.range_succ]
theorem lay3_get (k0 n j : Nat) (h : j < n) : (lay3 k0 n).getD j sp0 = (((k0 + j * 3 : Nat) : Int), ((k0 + j * 3 + 1 : Nat) : Int), ((k0 + j * 3 + 2 : Nat) : Int)) := by simp [lay3, List.getD, h]
theorem lay3_set (zs : List Sp3) (k0 k : Nat) (hk : k < zs.length) :
    (((scells (lay3 k0 k ++ zs.drop k)).set (k * 3) (.int .i64 ((k0 + k * 3 : Nat) : Int))).set (k * 3 + 1) (.int .i64 ((k0 + k * 3 + 1 : Nat) : Int))).set (k * 3 + 2) (.int .i64 ((k0 + k * 3 + 2 : Nat) : Int)) = scells (lay3 k0 (k + 1) ++ zs.drop (k + 1)) := by
  rw [List.drop_eq_getElem_cons hk, lay3_succ, List.append_assoc]
  exact scells_set (lay3 k0 k) (zs.drop (k + 1)) zs[k] (((k0 + k * 3 : Nat) : Int), ((k0 + k * 3 + 1 : Nat) : Int), ((k0 + k * 3 + 2 : Nat) : Int)) k (lay3_length _ _)
theorem lay3_S64 {k0 n : Nat} (h : k0 + n * 3 ≤ 4611686018427387904) : S64 (lay3 k0 n) := by
  intro m hm
  obtain ⟨j, hj, rfl⟩ := List.mem_map.1 hm
  have := List.mem_range.1 hj
  unfold I64
  dsimp only
  omega
attribute [local irreducible] lay3
set_option maxHeartbeats 1000000 in
theorem heldSplitS (n : Nat) (k0 : Nat) (hk0 : n * 3 + k0 ≤ 4611686018427387904) (B : Nat) (a : Value) (w : World) (hx : RdSplits w B a (lay3 k0 n)) :
    Calls Tryd.prog 37 #[a, .int .i64 k0] w fun e w' => e = .returned (.int .i64 ((k0 + n * 3 : Nat) : Int)) ∧ w = w' := by
  obtain ⟨ao, acap, rfl, hal, ham, _, hac0⟩ := hx
  have hln := lay3_length k0 n
  have hac : Hid (∀ j, j < n → ∃ b off, ao = some ⟨b, off, none⟩ ∧ b < B ∧ w.cell? ⟨b, off + j * 3, none⟩ = some (.int .i64 ((k0 + j * 3 : Nat) : Int)) ∧ w.cell? ⟨b, off + j * 3 + 1, none⟩ = some (.int .i64 ((k0 + j * 3 + 1 : Nat) : Int)) ∧ w.cell? ⟨b, off + j * 3 + 2, none⟩ = some (.int .i64 ((k0 + j * 3 + 2 : Nat) : Int))) := by
    intro j hj
    obtain ⟨b, off, h1, h2, h3, h4, h5⟩ := hac0 j (by rw [hln]; exact hj)
    rw [lay3_get k0 n j hj] at h3 h4 h5
    exact ⟨b, off, h1, h2, h3, h4, h5⟩
  rw [hln] at hal ⊢
  clear hln hac0
  unfold maxLen at ham
  go_enter Tryd.func37, Tryd.ntmps37
  go_wp2
  go_loop [1, 5] (fun q i => ∃ k : Nat, k ≤ n ∧ i = .int .i64 k ∧ q = .int .i64 ((k0 + k * 3 : Nat) : Int)) (fun _ i => n - (intOf i).toNat)
  case atStart => exact ⟨0, Nat.zero_le _, rfl, rfl⟩
  case round =>
    obtain ⟨k, hk, rfl, rfl⟩ := hrel
    by_cases hlt : k < n
    · obtain ⟨b1, o1, rfl, _, hc1, hc2, hc3⟩ := hac.out k hlt
      have hq : k0 + k * 3 + 2 ≤ 4611686018427387904 := by omega
      have Hq : Hid (((k0 + k * 3 : Nat) : Int) + 1 + 1 + 1 = ((k0 + (k + 1) * 3 : Nat) : Int)) := by unfold Hid; omega
      have e2 : ((k0 + k * 3 + 1 : Nat) : Int) = ((k0 + k * 3 : Nat) : Int) + 1 := by omega
      have e3 : ((k0 + k * 3 + 2 : Nat) : Int) = ((k0 + k * 3 : Nat) : Int) + 1 + 1 := by omega
      rw [e2] at hc2
      rw [e3] at hc3
      clear e2 e3
      generalize k0 + k * 3 = q at *
      go_wp2
      go_round
      case rel => exact ⟨k + 1, by omega, by go_num, by rw [← Hq.out]⟩
      case measure => simp [intOf]; omega
    · obtain rfl : k = n := by omega
      go_wp2
      go_ret
      exact ⟨rfl, rfl⟩
set_option maxHeartbeats 1000000 in
theorem markSplitS (zs : List Sp3) (k0 : Nat) (hk0 : zs.length * 3 + k0 ≤ 4611686018427387904) (base : Nat) (a : Value) (w : World) (hx : w.ownsRow base 85 3 a zs.length (scells zs)) :
    Calls Tryd.prog 36 #[a, .int .i64 k0] w fun e w' => e = .returned (.int .i64 ((k0 + zs.length * 3 : Nat) : Int)) ∧
      w'.ownsRow base 85 3 a zs.length (scells (lay3 k0 zs.length)) ∧ w.grownBy w' a.ownBlock := by
  have hxl := scells_length zs
  generalize hn : zs.length = n at *
  by_cases h0 : n = 0
  · subst h0
    have hz : zs = [] := List.eq_nil_of_length_eq_zero hn
    subst hz
    have hlay : lay3 k0 0 = [] := List.eq_nil_of_length_eq_zero (lay3_length k0 0)
    have Hlay := Lib.hid hlay; clear hlay
    rcases ownsRow_forms hx with ⟨rfl, _⟩ | ⟨g, cap, rfl⟩
    all_goals
      clear hn hxl
      go_enter Tryd.func36, Tryd.ntmps36
      go_wp2
      go_loop [1, 5] (fun q i => q = .int .i64 k0 ∧ i = .int .i64 (0 : Nat)) (fun _ _ => 0)
      case atStart => exact ⟨rfl, rfl⟩
      case round =>
        obtain ⟨rfl, rfl⟩ := hrel
        go_wp2
        go_ret
        exact ⟨rfl, by rw [Hlay.out]; exact hx, World.grownBy.refl _ _⟩
  · obtain ⟨g, cap, rfl⟩ := ownsRow_form hx (by omega)
    have hnm : n ≤ 4611686018427387904 := by omega
    have Hn := Lib.hid hn; clear hn
    have Hxl := Lib.hid hxl; clear hxl
    go_enter Tryd.func36, Tryd.ntmps36
    go_wp2
    go_loopw [1, 5] (fun q i wr => ∃ k : Nat, k ≤ n ∧ i = .int .i64 k ∧ q = .int .i64 ((k0 + k * 3 : Nat) : Int) ∧
        wr.ownsRow base 85 3 (.slice (some ⟨g, 0, none⟩) n cap) n (scells (lay3 k0 k ++ zs.drop k)) ∧ w.grownBy wr (some g)) (fun _ i _ => n - (intOf i).toNat)
    case atStart => exact ⟨0, Nat.zero_le _, rfl, rfl, by rw [show lay3 k0 0 = [] from List.eq_nil_of_length_eq_zero (lay3_length k0 0)]; simpa using hx, World.grownBy.refl _ _⟩
    case round =>
      obtain ⟨k, hk, rfl, rfl, hown, hgr⟩ := hrel
      by_cases hlt : k < n
      · have hq : k0 + k * 3 + 2 ≤ 4611686018427387904 := by omega
        have Hq : Hid (((k0 + k * 3 : Nat) : Int) + 1 + 1 + 1 = ((k0 + (k + 1) * 3 : Nat) : Int)) := by unfold Hid; omega
        have hl2 : (scells (lay3 k0 k ++ zs.drop k)).length = n * 3 := by rw [scells_length]; simp [lay3_length, Hn.out]; omega
        have hset := Lib.hid (lay3_set zs k0 k (by rw [Hn.out]; exact hlt))
        have e2 : ((k0 + k * 3 + 1 : Nat) : Int) = ((k0 + k * 3 : Nat) : Int) + 1 := by omega
        have e3 : ((k0 + k * 3 + 2 : Nat) : Int) = ((k0 + k * 3 : Nat) : Int) + 1 + 1 := by omega
        have hset' := hset.out
        rw [e2, e3] at hset'
        have Hset := Lib.hid hset'
        clear hset' hset e2 e3
        generalize k0 + k * 3 = q at *
        have h1 := hown.stored (k * 3) (.int .i64 (q : Int))
        have h2 := h1.1.stored (k * 3 + 1) (.int .i64 ((q : Int) + 1))
        have h3 := h2.1.stored (k * 3 + 2) (.int .i64 ((q : Int) + 1 + 1))
        have hf1 := hown.frozenAt (k * 3)
        have hf2 := hown.frozenAt (k * 3 + 1)
        have hf3 := hown.frozenAt (k * 3 + 2)
        obtain ⟨u3, hu3⟩ : ∃ u, wr.cell? ⟨g, k * 3 + 2, none⟩ = some u := ⟨_, by rw [hown.cellAt _ (by omega)]; exact List.getElem?_eq_getElem (by omega)⟩
        obtain ⟨u1, hu1⟩ : ∃ u, wr.cell? ⟨g, k * 3, none⟩ = some u := ⟨_, by rw [hown.cellAt _ (by omega)]; exact List.getElem?_eq_getElem (by omega)⟩
        obtain ⟨u2, hu2⟩ : ∃ u, wr.cell? ⟨g, k * 3 + 1, none⟩ = some u := ⟨_, by rw [hown.cellAt _ (by omega)]; exact List.getElem?_eq_getElem (by omega)⟩
        have h21 := h3.1
        rw [Hset.out] at h21
        have Hst := Lib.hid h21
        have Hgr := Lib.hid (grownBy_trans hgr (grownBy_trans h1.2 (grownBy_trans h2.2 h3.2)))
        clear h1 h2 h3 h21 hown hgr hl2
        go_wp2
        go_roundw
        case rel => exact ⟨k + 1, by omega, by go_num, by rw [← Hq.out], Hst.out, Hgr.out⟩
        case measure => simp [intOf]; omega
      · obtain rfl : k = n := by omega
        go_wp2
        go_ret
        refine ⟨rfl, ?_, hgr⟩
        have hd : zs.drop k = [] := List.drop_eq_nil_of_le (by rw [Hn.out]; exact Nat.le_refl _)
        rw [hd, List.append_nil] at hown
        exact hown
set_option maxHeartbeats 1000000 in
theorem markProofH (k : Int) (zs : List Sp3) (k0 : Nat) (hk0 : zs.length * 3 + k0 ≤ 4611686018427387904) (base : Nat) (a : Value) (w : World) (hx : w.ownsRow base 85 3 a zs.length (scells zs)) :
    Calls Tryd.prog 20 #[.agg #[.int .i64 k, a], .int .i64 k0] w fun e w' => e = .returned (.int .i64 ((k0 + zs.length * 3 : Nat) : Int)) ∧
      w'.ownsRow base 85 3 a zs.length (scells (lay3 k0 zs.length)) ∧ w.grownBy w' a.ownBlock := by
  have Hm := Lib.hid (markSplitS zs k0 hk0 base a _ (hx.alloc (.cells #[.int .i64 k, a] 37)))
  go_enter Tryd.func20, Tryd.ntmps20
  go_wp2_with fail
  refine Hm.out.mono ?_
  rintro e w' ⟨rfl, hown, hg⟩
  have Hout := Lib.hid (And.intro hown (grown_trans (only_alloc (World.grownBy.refl _ _) _) hg))
  clear hown hg
  go_wp2
  go_ret
  exact ⟨rfl, Hout.out.1, Hout.out.2⟩
set_option maxHeartbeats 1000000 in
theorem heldProofH (k : Int) (n k0 : Nat) (hk0 : n * 3 + k0 ≤ 4611686018427387904) (B : Nat) (a : Value) (w : World) (hx : RdSplits w B a (lay3 k0 n)) (hB : B ≤ w.heap.size) :
    Calls Tryd.prog 21 #[.agg #[.int .i64 k, a], .int .i64 k0] w fun e w' => e = .returned (.int .i64 ((k0 + n * 3 : Nat) : Int)) ∧ Below w.heap.size w w' := by
  go_enter Tryd.func21, Tryd.ntmps21
  go_upto_region 1 with fail
  obtain ⟨w2, hw2, hx2, hb2, hsz2⟩ := Box.new w (.int .i64 k) a 37
  have Hm := Lib.hid (heldSplitS n k0 hk0 B a w2 (hx.below (w' := w2) (fun q hq => hb2.block q (by omega))))
  have aX := hx2.1
  have bX := hx2.2.1
  rw [← hw2]
  clear hw2
  have h0 : (0 : Int) ≤ ((k0 + n * 3 : Nat) : Int) := by omega
  generalize hK : k0 + n * 3 = K at *
  have HK := Lib.hid hK
  clear hK
  go_wp2_with fail
  refine Hm.out.mono ?_
  rintro e w' ⟨rfl, rfl⟩
  go_wp2
  go_ret
  exact ⟨by rw [HK.out]; rfl, hb2⟩
end Go.Proofs.YtefmoljipbbmmaaDoor
/- Contracts of what the laws do with stories. -/
namespace Go.Proofs.YtefmoljipbbmmaaDoor
open Go.RowKit Go.Joins
theorem below_drewR {B : Nat} {a w : World} (h : Below B a w) : Below B a w.drew := h.trans ⟨rfl, rfl, rfl, Nat.le_refl _, fun _ _ => rfl⟩
theorem same_len {xs ys : List QC} (h : xs.map (·.2) = ys.map (·.2)) : xs.length = ys.length := by
  have := congrArg List.length h
  simpa using this
theorem same_at {xs ys : List QC} (h : xs.map (·.2) = ys.map (·.2)) (j : Nat) : (xs.getD j qc0).2 = (ys.getD j qc0).2 := by
  have := congrArg (fun l => l.getD j qc0.2) h
  simpa [List.getD_eq_getElem?_getD, List.getElem?_map, Option.getD_map] using this
set_option maxRecDepth 100000 in
set_option maxHeartbeats 2000000 in
theorem eqClaimS (xs ys : List QC) (he : xs.map (·.2) = ys.map (·.2)) (B B' : Nat) (a b : Value) (w : World) (hx : RdStory w B a xs) (hy : RdStory w B' b ys) (hB : B ≤ w.heap.size) (hB' : B' ≤ w.heap.size) :
    Calls Tryd.prog 13 #[a, b] w fun e w' => e = .returned (.bool true) ∧ Below w.heap.size w w' := by
  have hlen := same_len he
  have Hat := Lib.hid (fun j => same_at he j)
  have Hx := Lib.hid hx
  have Hy := Lib.hid hy
  obtain ⟨ao, acap, rfl, hal, ham, _, hac0⟩ := hx
  obtain ⟨bo, bcap, rfl, hbl, hbm, _, hbc0⟩ := hy
  have hac := Lib.hid hac0; clear hac0
  have hbc := Lib.hid hbc0; clear hbc0
  unfold maxLen at ham hbm
  have hbc1 : Hid (∀ (j : Nat), j < xs.length → ∃ b off, bo = some ⟨b, off, none⟩ ∧ b < B' ∧ w.cell? ⟨b, off + j * 2, none⟩ = some (.int .i64 (ys.getD j qc0).2.1) ∧ w.cell? ⟨b, off + j * 2 + 1, none⟩ = some (ys.getD j qc0).1) := fun j hj => hbc.out j (by omega)
  have Hy1 : Hid (∀ (j : Nat), j < xs.length → RdMarks w B' (ys.getD j qc0).1 (ys.getD j qc0).2.2) := fun j hj => (Hy.out.get (by omega)).1
  rw [← hlen] at hbl ⊢
  clear hlen hbc Hy he
  obtain ⟨wo, rfl⟩ : ∃ wo : World, wo = w := ⟨_, rfl⟩
  go_enter Tryd.func13, Tryd.ntmps13
  go_wp2
  go_loopw [5] (fun i wr => ∃ k : Nat, k ≤ xs.length ∧ i = .int .i64 k ∧ Below wo.heap.size wo wr) (fun i _ => xs.length - (intOf i).toNat)
  case atStart => exact ⟨0, Nat.zero_le _, rfl, Below.refl _ _⟩
  case round =>
    obtain ⟨j, hj, rfl, hbel⟩ := hrel
    by_cases hlt : j < xs.length
    · obtain ⟨b1, o1, rfl, hb1, hc1, hc1'⟩ := hac.out j hlt
      obtain ⟨b2, o2, rfl, hb2, hc2, hc2'⟩ := hbc1.out j hlt
      rw [← hbel.cell (p := ⟨b1, _, none⟩) (show b1 < _ by omega)] at hc1 hc1'
      rw [← hbel.cell (p := ⟨b2, _, none⟩) (show b2 < _ by omega)] at hc2 hc2'
      have hm1 := (Hx.out.get hlt).1.below (w' := wr) (fun q hq => hbel.block q (by omega))
      have hm2 := (Hy1.out j hlt).below (w' := wr) (fun q hq => hbel.block q (by omega))
      have heq := Hat.out j
      generalize xs.getD j qc0 = z at *
      generalize ys.getD j qc0 = z' at *
      obtain ⟨u, c⟩ := z
      obtain ⟨u', c'⟩ := z'
      dsimp only at heq
      subst heq
      obtain ⟨k, ms⟩ := c
      dsimp only at hc1 hc1' hc2 hc2' hm1 hm2
      have Hm1 := Lib.hid hm1
      have Hm2 := Lib.hid hm2
      have hBr : B ≤ wr.heap.size := by have := hbel.size; omega
      have hBr' : B' ≤ wr.heap.size := by have := hbel.size; omega
      have Hbel := Lib.hid hbel
      have hij1 : (0 : Int) ≤ (j : Int) := by omega
      have hij2 : (j : Int) < (xs.length : Int) := by omega
      clear hm1 hm2 hbel
      go_wp2_with fail
      go_region_held3 (fun w' => w'.cell? ⟨b1, o1 + j * 2, none⟩ = some (.int .i64 k) ∧ w'.cell? ⟨b1, o1 + j * 2 + 1, none⟩ = some u ∧ w'.cell? ⟨b2, o2 + j * 2, none⟩ = some (.int .i64 k) ∧ w'.cell? ⟨b2, o2 + j * 2 + 1, none⟩ = some u')
        (first | (refine ⟨?_, ?_, ?_, ?_⟩ <;> first | go_keep | assumption) | assumption)
        (first
          | (go_at_call 31
             (with_reducible refine (eqClaim k ms B B' u u' _ ?_ ?_ ?_ ?_).mono ?_)
             · exact Hm1.out
             · exact Hm2.out
             · exact hBr
             · exact hBr'
             rintro e wn ⟨rfl, hbn'⟩
             go_must (have hbn : Below wr.heap.size wr wn := by first | exact hbn' | exact below_undrewS hbn' | exact below_undrewN hbn'
                      clear hbn'
                      have d1 := (hbn.cell (p := ⟨b1, o1 + j * 2, none⟩) (show b1 < _ by omega)).trans hc1
                      have d2 := (hbn.cell (p := ⟨b1, o1 + j * 2 + 1, none⟩) (show b1 < _ by omega)).trans hc1'
                      have d3 := (hbn.cell (p := ⟨b2, o2 + j * 2, none⟩) (show b2 < _ by omega)).trans hc2
                      have d4 := (hbn.cell (p := ⟨b2, o2 + j * 2 + 1, none⟩) (show b2 < _ by omega)).trans hc2'
                      have Hbn := Lib.hid (Hbel.out.trans (hbn.mono Hbel.out.size))
                      clear hbn))
          | fail)
      go_wp2
      go_roundw
      case rel => exact ⟨j + 1, by omega, by go_num, by first | exact Hbn.out | exact below_drewR Hbn.out | exact below_drewN Hbn.out _⟩
      case measure => simp [intOf]; omega
    · obtain rfl : j = xs.length := by omega
      have Hbel := Lib.hid hbel; clear hbel
      go_wp2
      go_ret
      exact ⟨rfl, Hbel.out⟩
end Go.Proofs.YtefmoljipbbmmaaDoor

/- Contracts of the laws' own helpers over lists of numbers. -/
import Derived.Test.YtcppoepdpgeakaaPeople
import Derived.Lib.SmallJoins
namespace Go.Proofs.Ytcppoepdpgeakaa
open Go.RowKit Go.Joins

def ints (zs : List Int) : List Value := zs.map (Value.int .i64)
theorem grownBy_setCell {w : World} (g j : Nat) (u : Value) : w.grownBy (w.setCell ⟨g, j, none⟩ u) (some g) :=
  ⟨rfl, rfl, rfl, by simp [World.setCell], fun k _ hne => Below.heap_setCell _ _ _ _ (by intro e; exact hne (by rw [e]))⟩
theorem grownBy_trans {a b c : World} {row : Option Nat} (h : a.grownBy b row) (k : b.grownBy c row) : a.grownBy c row :=
  ⟨k.os.trans h.os, k.tape.trans h.tape, k.output.trans h.output, Nat.le_trans h.size k.size, fun i hi hne => (k.block i (Nat.lt_of_lt_of_le hi h.size) hne).trans (h.block i hi hne)⟩
theorem grownBy_drewN {a b : World} {row : Option Nat} (h : a.grownBy b row) (n : Nat) : a.grownBy (b.drewN n) row :=
  grownBy_trans h ⟨rfl, rfl, rfl, Nat.le_refl _, fun _ _ _ => rfl⟩

/-! ### equality of two lists of numbers -/
theorem list_eq_of {xs ys : List Int} (hl : xs.length = ys.length) (h : ∀ j, j < xs.length → xs.getD j 0 = ys.getD j 0) : xs = ys := by
  refine List.ext_getElem hl fun j h1 h2 => ?_
  have := h j h1
  simpa [List.getD, h1, h2] using this
theorem ints_set_mid (A R : List Int) (z x : Int) (k : Nat) (hk : A.length = k) : (ints (A ++ z :: R)).set k (.int .i64 x) = ints (A ++ x :: R) := by
  subst hk
  have h1 : (A.map (Value.int .i64)).length = A.length := by simp
  unfold ints
  rw [List.map_append, List.map_append, List.map_cons, List.map_cons, List.set_append_right _ _ (by omega), h1, Nat.sub_self]
  rfl
theorem mark_set (zs : List Int) (k0 k : Nat) (hk : k < zs.length) :
    (ints (((List.range k).map fun j => ((k0 + j : Nat) : Int)) ++ zs.drop k)).set k (.int .i64 ((k0 + k : Nat) : Int)) = ints (((List.range (k+1)).map fun j => ((k0 + j : Nat) : Int)) ++ zs.drop (k + 1)) := by
  rw [List.drop_eq_getElem_cons hk, List.range_succ, List.map_append, List.append_assoc]
  exact ints_set_mid _ _ _ _ _ (by simp)
theorem copy_set (zs : List Int) (n k : Nat) (hn : zs.length = n) (hk : k < n) :
    (ints (zs.take k ++ List.replicate (n - k) 0)).set k (.int .i64 (zs.getD k 0)) = ints (zs.take (k + 1) ++ List.replicate (n - (k + 1)) 0) := by
  have hr : List.replicate (n - k) (0 : Int) = 0 :: List.replicate (n - (k + 1)) 0 := by
    rw [show n - k = (n - (k + 1)) + 1 from by omega]; rfl
  rw [hr, List.take_succ_eq_append_getElem (by omega), show zs.getD k 0 = zs[k] from by simp [List.getD, show k < zs.length by omega], List.append_assoc]
  exact ints_set_mid _ _ _ _ _ (by simp; omega)

set_option maxHeartbeats 1000000 in
theorem eqIntS (xs ys : List Int) (B B' : Nat) (a b : Value) (w : World) (hx : RdInts w B a xs) (hy : RdInts w B' b ys) :
    Calls Try.prog 19 #[a, b] w fun e w' => e = .returned (.bool (decide (xs = ys))) ∧ ∃ n, w.drewN n = w' := by
  obtain ⟨ao, acap, rfl, hal, ham, hac0⟩ := hx
  obtain ⟨bo, bcap, rfl, hbl, hbm, hbc0⟩ := hy
  have hac := Lib.hid hac0; clear hac0
  have hbc := Lib.hid hbc0; clear hbc0
  unfold maxLen at ham hbm
  by_cases hlen : xs.length = ys.length
  · have Hl := Lib.hid hlen
    have hbc1 : Hid (∀ (j : Nat), j < xs.length → ∃ b off, bo = some ⟨b, off, none⟩ ∧ b < B' ∧ w.cell? ⟨b, off + j, none⟩ = some (.int .i64 (ys.getD j 0))) := fun j hj => hbc.out j (by omega)
    rw [← hlen] at hbl ⊢
    clear hlen hbc
    go_enter Try.func19, Try.ntmps19
    go_wp2
    go_loopw [5] (fun i wr => ∃ k : Nat, k ≤ xs.length ∧ i = .int .i64 k ∧ Hid (∀ j, j < k → xs.getD j 0 = ys.getD j 0) ∧ ∃ n, w.drewN n = wr) (fun i _ => xs.length - (intOf i).toNat)
    case atStart => exact ⟨0, Nat.zero_le _, rfl, fun j hj => by omega, 0, rfl⟩
    case round =>
      obtain ⟨k, hk, rfl, hall, nd, rfl⟩ := hrel
      by_cases hlt : k < xs.length
      · obtain ⟨b1, o1, rfl, _, hc1⟩ := hac.out k hlt
        obtain ⟨b2, o2, rfl, _, hc2⟩ := hbc1.out k hlt
        by_cases hne : xs.getD k 0 = ys.getD k 0
        · have Hne := Lib.hid hne
          rw [← hne] at hc2
          clear hne
          generalize hz : xs.getD k 0 = z at *
          have Hz := Lib.hid hz; clear hz
          go_wp2_with fail
          go_quiet (fail)
          go_wp2
          go_roundw
          case rel => exact ⟨k + 1, by omega, by go_num, fun j hj => by
            by_cases hjk : j < k
            · exact hall.out j hjk
            · obtain rfl : j = k := by omega
              rw [Hz.out]; exact Hne.out, _, rfl⟩
          case measure => simp [intOf]; omega
        · have hdec : Hid (decide (xs = ys) = false) := by
            unfold Hid; rw [decide_eq_false_iff_not]; intro e; rw [e] at hne; exact hne rfl
          have hb : (xs.getD k 0 != ys.getD k 0) = true := by rw [bne_iff_ne]; exact hne
          clear hne
          generalize xs.getD k 0 = z at *
          generalize ys.getD k 0 = z' at *
          go_wp2_with fail
          go_quiet (fail)
          go_wp2
          go_ret
          exact ⟨ret_bool (by rw [hdec.out]), _, (World.drewN_drewN _ _ _).symm⟩
      · obtain rfl : k = xs.length := by omega
        have hdec : Hid (decide (xs = ys) = true) := by
          unfold Hid; rw [decide_eq_true_eq]; exact list_eq_of Hl.out hall.out
        go_wp2
        go_ret
        exact ⟨ret_bool (by rw [hdec.out]), nd, rfl⟩
  · have hb : ((xs.length : Int) != (ys.length : Int)) = true := by rw [bne_iff_ne]; omega
    have hdec : Hid (decide (xs = ys) = false) := by
      unfold Hid; rw [decide_eq_false_iff_not]; intro e; rw [e] at hlen; exact hlen rfl
    clear hlen
    go_enter Try.func19, Try.ntmps19
    go_wp2
    go_ret
    exact ⟨ret_bool (by rw [hdec.out]), 0, rfl⟩




set_option maxHeartbeats 1000000 in
theorem heldIntS (n : Nat) (k0 : Nat) (hk0 : n + k0 ≤ 4611686018427387904) (B : Nat) (a : Value) (w : World) (hx : RdInts w B a ((List.range n).map fun j => ((k0 + j : Nat) : Int))) :
    Calls Try.prog 22 #[a, .int .i64 k0] w fun e w' => e = .returned (.int .i64 ((k0 + n : Nat) : Int)) ∧ w = w' := by
  obtain ⟨ao, acap, rfl, hal, ham, hac0⟩ := hx
  have hln : ((List.range n).map fun j => ((k0 + j : Nat) : Int)).length = n := by simp
  have hac : Hid (∀ j, j < n → ∃ b off, ao = some ⟨b, off, none⟩ ∧ b < B ∧ w.cell? ⟨b, off + j, none⟩ = some (.int .i64 ((k0 + j : Nat) : Int))) := by
    intro j hj
    obtain ⟨b, off, h1, h2, h3⟩ := hac0 j (by rw [hln]; exact hj)
    refine ⟨b, off, h1, h2, ?_⟩
    rw [h3]; simp [List.getD, hj]
  rw [hln] at hal ⊢
  clear hln hac0
  unfold maxLen at ham
  go_enter Try.func22, Try.ntmps22
  go_wp2
  go_loop [1, 5] (fun q i => ∃ k : Nat, k ≤ n ∧ i = .int .i64 k ∧ q = .int .i64 ((k0 + k : Nat) : Int)) (fun _ i => n - (intOf i).toNat)
  case atStart => exact ⟨0, Nat.zero_le _, rfl, rfl⟩
  case round =>
    obtain ⟨k, hk, rfl, rfl⟩ := hrel
    by_cases hlt : k < n
    · obtain ⟨b1, o1, rfl, _, hc1⟩ := hac.out k hlt
      have hq : k0 + k ≤ 4611686018427387904 := by omega
      have Hq : Hid (((k0 + k : Nat) : Int) + 1 = ((k0 + (k + 1) : Nat) : Int)) := by unfold Hid; omega
      generalize k0 + k = q at *
      go_wp2
      go_round
      case rel => exact ⟨k + 1, by omega, by go_num, by rw [← Hq.out]⟩
      case measure => simp [intOf]; omega
    · obtain rfl : k = n := by omega
      go_wp2
      go_ret
      exact ⟨rfl, rfl⟩

set_option maxHeartbeats 1000000 in
theorem markIntS (zs : List Int) (k0 : Nat) (hk0 : zs.length + k0 ≤ 4611686018427387904) (base : Nat) (a : Value) (w : World) (hx : w.ownsRow base 3 1 a zs.length (ints zs)) :
    Calls Try.prog 21 #[a, .int .i64 k0] w fun e w' => e = .returned (.int .i64 ((k0 + zs.length : Nat) : Int)) ∧
      w'.ownsRow base 3 1 a zs.length (ints ((List.range zs.length).map fun j => ((k0 + j : Nat) : Int))) ∧ w.grownBy w' a.ownBlock := by
  generalize hn : zs.length = n at *
  have hxl : (ints zs).length = n := by simp [ints, hn]
  by_cases h0 : n = 0
  · subst h0
    have hz : zs = [] := List.eq_nil_of_length_eq_zero hn
    subst hz
    rcases ownsRow_forms hx with ⟨rfl, _⟩ | ⟨g, cap, rfl⟩
    all_goals
      clear hn hxl
      go_enter Try.func21, Try.ntmps21
      go_wp2
      go_loop [1, 5] (fun q i => q = .int .i64 k0 ∧ i = .int .i64 (0 : Nat)) (fun _ _ => 0)
      case atStart => exact ⟨rfl, rfl⟩
      case round =>
        obtain ⟨rfl, rfl⟩ := hrel
        go_wp2
        go_ret
        exact ⟨rfl, by simpa [ints] using hx, World.grownBy.refl _ _⟩
  · obtain ⟨g, cap, rfl⟩ := ownsRow_form hx (by omega)
    have hnm : n ≤ 9223372036854775807 := by omega
    have Hn := Lib.hid hn; clear hn
    have Hxl := Lib.hid hxl; clear hxl
    go_enter Try.func21, Try.ntmps21
    go_wp2
    go_loopw [1, 5] (fun q i wr => ∃ k : Nat, k ≤ n ∧ i = .int .i64 k ∧ q = .int .i64 ((k0 + k : Nat) : Int) ∧
        wr.ownsRow base 3 1 (.slice (some ⟨g, 0, none⟩) n cap) n (ints (((List.range k).map fun j => ((k0 + j : Nat) : Int)) ++ zs.drop k)) ∧ w.grownBy wr (some g)) (fun _ i _ => n - (intOf i).toNat)
    case atStart => exact ⟨0, Nat.zero_le _, rfl, rfl, by simpa using hx, World.grownBy.refl _ _⟩
    case round =>
      obtain ⟨k, hk, rfl, rfl, hown, hgr⟩ := hrel
      by_cases hlt : k < n
      · have hq : k0 + k ≤ 4611686018427387904 := by omega
        have Hq : Hid (((k0 + k : Nat) : Int) + 1 = ((k0 + (k + 1) : Nat) : Int)) := by unfold Hid; omega
        have hst := hown.stored k (.int .i64 ((k0 + k : Nat) : Int))
        have hfz := hown.frozenAt k
        have hcell := hown.cellAt k (by omega)
        have hset : Hid ((ints (((List.range k).map fun j => ((k0 + j : Nat) : Int)) ++ zs.drop k)).set k (.int .i64 ((k0 + k : Nat) : Int)) = ints (((List.range (k+1)).map fun j => ((k0 + j : Nat) : Int)) ++ zs.drop (k + 1))) := mark_set _ _ _ (by rw [Hn.out]; exact hlt)
        have hcell' : ∃ u, wr.cell? ⟨g, k, none⟩ = some u := ⟨_, by rw [hcell]; exact List.getElem?_eq_getElem (by simp [ints, Hn.out]; omega)⟩
        obtain ⟨u, hcu⟩ := hcell'
        clear hcell
        obtain ⟨hst1, hst2⟩ := hst
        rw [hset.out] at hst1
        have Hst1 := Lib.hid hst1; clear hst1
        have Hst2 := Lib.hid hst2; clear hst2
        clear hown
        generalize k0 + k = q at *
        go_wp2
        go_roundw
        case rel => exact ⟨k + 1, by omega, by go_num, by rw [← Hq.out], Hst1.out, grownBy_trans hgr Hst2.out⟩
        case measure => simp [intOf]; omega
      · obtain rfl : k = n := by omega
        go_wp2
        go_ret
        refine ⟨rfl, ?_, hgr⟩
        have hd : zs.drop k = [] := List.drop_eq_nil_of_le (by rw [Hn.out]; exact Nat.le_refl _)
        rw [hd, List.append_nil] at hown
        exact hown

set_option maxHeartbeats 1000000 in
theorem toIntS (zs : List Int) (hsz : zs.length ≤ 17592186044416) (B : Nat) (a : Value) (w : World) (hx : RdInts w B a zs) (hB : B ≤ w.heap.size) :
    Calls Try.prog 34 #[a] w fun e w' => ∃ v, e = .returned v ∧ w'.ownsRow w.heap.size 3 1 v zs.length (ints zs) ∧ Below w.heap.size w w' := by
  obtain ⟨ao, acap, rfl, hal, ham, hac0⟩ := hx
  obtain ⟨i0, hi, hz0, hz1, hz2⟩ := info_parts Try.info3
  have hac := Lib.hid hac0; clear hac0
  unfold maxLen at ham
  generalize hn : zs.length = n at *
  have Hn := Lib.hid hn; clear hn
  go_enter Try.func34, Try.ntmps34
  go_wp2_with (at_make; refine wpList_make_full _ rfl _ _ 28 rfl w.heap.size 3 i0 (.int .i64 0) 1 Try.underlying28 hi hz0 hz1 _ _ _ _ n rfl rfl rfl rfl ?b1 ?b2 ?b3 ?_)
  case b1 => rw [hz2]; omega
  case b2 => unfold maxLen; omega
  case b3 => exact Nat.le_refl _
  have Hi := Lib.hid hi; clear hi
  have Hz0 := Lib.hid hz0; clear hz0
  have Hz1 := Lib.hid hz1; clear hz1
  have Hz2 := Lib.hid hz2; clear hz2
  intro w1 hown hgrow
  have hb1 : Below w.heap.size w w1 := (Below.refl _ _).grown hgrow (Nat.le_refl _) (fun k hk => by cases hk)
  clear hgrow
  generalize hg : w.heap.size = g at *
  have Hg := Lib.hid hg; clear hg
  have hown0 : w1.ownsRow g 3 1 (.slice (some ⟨g, 0, none⟩) n n) n (ints (zs.take 0 ++ List.replicate (n - 0) 0)) := by
    have e : (madeCells #[Value.int .i64 0] n).toList = ints (zs.take 0 ++ List.replicate (n - 0) 0) := by
      rw [toList_madeCells_one]; simp [ints]
    rw [← e]; simpa [Value.cells] using hown
  clear hown
  go_wp2
  go_loopw [4] (fun i wr => ∃ k : Nat, k ≤ n ∧ i = .int .i64 k ∧ wr.ownsRow g 3 1 (.slice (some ⟨g, 0, none⟩) n n) n (ints (zs.take k ++ List.replicate (n - k) 0)) ∧ Below g w wr) (fun i _ => n - (intOf i).toNat)
  case atStart => exact ⟨0, Nat.zero_le _, rfl, hown0, hb1⟩
  case round =>
    obtain ⟨k, hk, rfl, hown, hgr⟩ := hrel
    by_cases hlt : k < n
    · obtain ⟨b1, o1, rfl, hbB, hc1⟩ := hac.out k hlt
      have hset : Hid ((ints (zs.take k ++ List.replicate (n - k) 0)).set k (.int .i64 (zs.getD k 0)) = ints (zs.take (k + 1) ++ List.replicate (n - (k + 1)) 0)) := copy_set _ _ _ Hn.out hlt
      have hst := hown.stored k (.int .i64 (zs.getD k 0))
      have hfz := hown.frozenAt k
      have hcell' : ∃ u, wr.cell? ⟨g, k, none⟩ = some u := ⟨_, by rw [hown.cellAt k (by omega)]; exact List.getElem?_eq_getElem (by simp [ints, Hn.out]; omega)⟩
      obtain ⟨u, hcu⟩ := hcell'
      have hsrc : wr.cell? ⟨b1, o1 + k, none⟩ = some (.int .i64 (zs.getD k 0)) := by rw [← hc1]; exact hgr.cell (p := ⟨b1, o1 + k, none⟩) (by show b1 < g; omega)
      clear hc1
      obtain ⟨hst1, hst2⟩ := hst
      rw [hset.out] at hst1
      have Hst1 := Lib.hid hst1; clear hst1
      have Hgr : Hid (Below g w (wr.setCell ⟨g, k, none⟩ (.int .i64 (zs.getD k 0)))) := hgr.setCell (Nat.le_refl _) _
      clear hst2 hown hset
      generalize zs.getD k 0 = z at *
      go_wp2
      go_roundw
      case rel => exact ⟨k + 1, by omega, by go_num, Hst1.out, Hgr.out⟩
      case measure => simp [intOf]; omega
    · obtain rfl : k = n := by omega
      go_wp2
      go_ret
      refine ⟨_, rfl, ?_, by have := Hg.out; subst this; exact hgr⟩
      have hd : zs.take k = zs := List.take_of_length_le (by rw [Hn.out]; exact Nat.le_refl _)
      rw [hd, Nat.sub_self] at hown
      have := Hg.out; subst this
      simpa using hown

end Go.Proofs.Ytcppoepdpgeakaa

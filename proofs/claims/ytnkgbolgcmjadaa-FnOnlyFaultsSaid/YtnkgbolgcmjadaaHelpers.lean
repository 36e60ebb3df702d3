/- Contracts of the laws' own helpers over lists of numbers. -/
import Derived.Test.YtnkgbolgcmjadaaPeople
import Derived.Lib.SmallJoins
namespace Go.Proofs.Ytnkgbolgcmjadaa
open Go.RowKit Go.Joins

def ints (zs : List Int) : List Value := zs.map (Value.int .i64)
theorem grownBy_setCell {w : World} (g j : Nat) (u : Value) : w.grownBy (w.setCell ⟨g, j, none⟩ u) (some g) :=
  ⟨rfl, rfl, rfl, by simp [World.setCell], fun k _ hne => Below.heap_setCell _ _ _ _ (by intro e; exact hne (by rw [e]))⟩
theorem grownBy_trans {a b c : World} {row : Option Nat} (h : a.grownBy b row) (k : b.grownBy c row) : a.grownBy c row :=
  ⟨k.os.trans h.os, k.tape.trans h.tape, k.output.trans h.output, Nat.le_trans h.size k.size, fun i hi hne => (k.block i (Nat.lt_of_lt_of_le hi h.size) hne).trans (h.block i hi hne)⟩
theorem grownBy_drewN {a b : World} {row : Option Nat} (h : a.grownBy b row) (n : Nat) : a.grownBy (b.drewN n) row :=
  grownBy_trans h ⟨rfl, rfl, rfl, Nat.le_refl _, fun _ _ _ => rfl⟩

/-! ### equality of two lists of numbers -/
theorem list_eq_of {xs ys : List Int} (hl : xs.length = ys.length) (h : ∀ j, j < xs.length → xs.getD j 0 = ys.getD j 0) : xs = ys := by
  refine List.ext_getElem hl fun j h1 h2 => ?_
  have := h j h1
  simpa [List.getD, h1, h2] using this
theorem ints_set_mid (A R : List Int) (z x : Int) (k : Nat) (hk : A.length = k) : (ints (A ++ z :: R)).set k (.int .i64 x) = ints (A ++ x :: R) := by
  subst hk
  have h1 : (A.map (Value.int .i64)).length = A.length := by simp
  unfold ints
  rw [List.map_append, List.map_append, List.map_cons, List.map_cons, List.set_append_right _ _ (by omega), h1, Nat.sub_self]
  rfl
theorem mark_set (zs : List Int) (k0 k : Nat) (hk : k < zs.length) :
    (ints (((List.range k).map fun j => ((k0 + j : Nat) : Int)) ++ zs.drop k)).set k (.int .i64 ((k0 + k : Nat) : Int)) = ints (((List.range (k+1)).map fun j => ((k0 + j : Nat) : Int)) ++ zs.drop (k + 1)) := by
  rw [List.drop_eq_getElem_cons hk, List.range_succ, List.map_append, List.append_assoc]
  exact ints_set_mid _ _ _ _ _ (by simp)
theorem copy_set (zs : List Int) (n k : Nat) (hn : zs.length = n) (hk : k < n) :
    (ints (zs.take k ++ List.replicate (n - k) 0)).set k (.int .i64 (zs.getD k 0)) = ints (zs.take (k + 1) ++ List.replicate (n - (k + 1)) 0) := by
  have hr : List.replicate (n - k) (0 : Int) = 0 :: List.replicate (n - (k + 1)) 0 := by
    rw [show n - k = (n - (k + 1)) + 1 from by omega]; rfl
  rw [hr, List.take_succ_eq_append_getElem (by omega), show zs.getD k 0 = zs[k] from by simp [List.getD, show k < zs.length by omega], List.append_assoc]
  exact ints_set_mid _ _ _ _ _ (by simp; omega)


set_option maxHeartbeats 1000000 in
theorem sameInts (xs ys : List Int) (B B' : Nat) (a b : Value) (w : World) (hx : RdInts w B a xs) (hy : RdInts w B' b ys) :
    Calls Try.prog 20 #[a, b] w fun e w' => e = .returned (.bool (decide (xs = ys))) ∧ ∃ n, w.drewN n = w' := by
  obtain ⟨ao, acap, rfl, hal, ham, hac0⟩ := hx
  obtain ⟨bo, bcap, rfl, hbl, hbm, hbc0⟩ := hy
  have hac := Lib.hid hac0; clear hac0
  have hbc := Lib.hid hbc0; clear hbc0
  unfold maxLen at ham hbm
  by_cases hlen : xs.length = ys.length
  · have Hl := Lib.hid hlen
    have hbc1 : Hid (∀ (j : Nat), j < xs.length → ∃ b off, bo = some ⟨b, off, none⟩ ∧ b < B' ∧ w.cell? ⟨b, off + j, none⟩ = some (.int .i64 (ys.getD j 0))) := fun j hj => hbc.out j (by omega)
    rw [← hlen] at hbl ⊢
    clear hlen hbc
    go_enter Try.func20, Try.ntmps20
    go_wp2
    go_loopw [5] (fun i wr => ∃ k : Nat, k ≤ xs.length ∧ i = .int .i64 k ∧ Hid (∀ j, j < k → xs.getD j 0 = ys.getD j 0) ∧ ∃ n, w.drewN n = wr) (fun i _ => xs.length - (intOf i).toNat)
    case atStart => exact ⟨0, Nat.zero_le _, rfl, fun j hj => by omega, 0, rfl⟩
    case round =>
      obtain ⟨k, hk, rfl, hall, nd, rfl⟩ := hrel
      by_cases hlt : k < xs.length
      · obtain ⟨b1, o1, rfl, _, hc1⟩ := hac.out k hlt
        obtain ⟨b2, o2, rfl, _, hc2⟩ := hbc1.out k hlt
        by_cases hne : xs.getD k 0 = ys.getD k 0
        · have Hne := Lib.hid hne
          rw [← hne] at hc2
          clear hne
          generalize hz : xs.getD k 0 = z at *
          have Hz := Lib.hid hz; clear hz
          go_wp2_with fail
          go_quiet (fail)
          go_wp2
          go_roundw
          case rel => exact ⟨k + 1, by omega, by go_num, fun j hj => by
            by_cases hjk : j < k
            · exact hall.out j hjk
            · obtain rfl : j = k := by omega
              rw [Hz.out]; exact Hne.out, _, rfl⟩
          case measure => simp [intOf]; omega
        · have hdec : Hid (decide (xs = ys) = false) := by
            unfold Hid; rw [decide_eq_false_iff_not]; intro e; rw [e] at hne; exact hne rfl
          have hb : (xs.getD k 0 != ys.getD k 0) = true := by rw [bne_iff_ne]; exact hne
          clear hne
          generalize xs.getD k 0 = z at *
          generalize ys.getD k 0 = z' at *
          go_wp2_with fail
          go_quiet (fail)
          go_wp2
          go_ret
          exact ⟨ret_bool (by rw [hdec.out]), _, (World.drewN_drewN _ _ _).symm⟩
      · obtain rfl : k = xs.length := by omega
        have hdec : Hid (decide (xs = ys) = true) := by
          unfold Hid; rw [decide_eq_true_eq]; exact list_eq_of Hl.out hall.out
        go_wp2
        go_ret
        exact ⟨ret_bool (by rw [hdec.out]), nd, rfl⟩
  · have hb : ((xs.length : Int) != (ys.length : Int)) = true := by rw [bne_iff_ne]; omega
    have hdec : Hid (decide (xs = ys) = false) := by
      unfold Hid; rw [decide_eq_false_iff_not]; intro e; rw [e] at hlen; exact hlen rfl
    clear hlen
    go_enter Try.func20, Try.ntmps20
    go_wp2
    go_ret
    exact ⟨ret_bool (by rw [hdec.out]), 0, rfl⟩

set_option maxHeartbeats 1000000 in
theorem hasInt (xs : List Int) (x : Int) (B : Nat) (a : Value) (w : World) (hx : RdInts w B a xs) :
    Calls Try.prog 23 #[a, .int .i64 x] w fun e w' => e = .returned (.bool (decide (x ∈ xs))) ∧ w = w' := by
  obtain ⟨ao, acap, rfl, hal, ham, hac0⟩ := hx
  have hac := Lib.hid hac0; clear hac0
  unfold maxLen at ham
  go_enter Try.func23, Try.ntmps23
  go_wp2
  go_loop [5] (fun i => ∃ k : Nat, k ≤ xs.length ∧ i = .int .i64 k ∧ Hid (∀ j, j < k → xs.getD j 0 ≠ x)) (fun i => xs.length - (intOf i).toNat)
  case atStart => exact ⟨0, Nat.zero_le _, rfl, fun j hj => by omega⟩
  case round =>
    obtain ⟨k, hk, rfl, hall⟩ := hrel
    by_cases hlt : k < xs.length
    · obtain ⟨b1, o1, rfl, _, hc1⟩ := hac.out k hlt
      by_cases hne : xs.getD k 0 = x
      · have hb : (xs.getD k 0 == x) = true := by rw [beq_iff_eq]; exact hne
        have hdec : Hid (decide (x ∈ xs) = true) := by
          unfold Hid; rw [decide_eq_true_eq, ← hne, show xs.getD k 0 = xs[k] from by simp [List.getD, hlt]]; exact List.getElem_mem hlt
        clear hne
        generalize xs.getD k 0 = z at *
        go_wp2
        go_ret
        exact ⟨ret_bool (by rw [hdec.out]), rfl⟩
      · have hb : (xs.getD k 0 == x) = false := by rw [beq_eq_false_iff_ne]; exact hne
        have Hne := Lib.hid hne; clear hne
        generalize hz : xs.getD k 0 = z at *
        have Hz := Lib.hid hz; clear hz
        go_wp2
        go_round
        case rel => exact ⟨k + 1, by omega, by go_num, fun j hj => by
          by_cases hjk : j < k
          · exact hall.out j hjk
          · obtain rfl : j = k := by omega
            rw [Hz.out]; exact Hne.out⟩
        case measure => simp [intOf]; omega
    · obtain rfl : k = xs.length := by omega
      have hdec : Hid (decide (x ∈ xs) = false) := by
        unfold Hid; rw [decide_eq_false_iff_not]; intro hm
        obtain ⟨j, hj, rfl⟩ := List.getElem_of_mem hm
        exact hall.out j hj (by simp [List.getD, hj])
      go_wp2
      go_ret
      exact ⟨ret_bool (by rw [hdec.out]), rfl⟩

set_option maxHeartbeats 1000000 in
theorem ascend_yes (xs : List Int) (B : Nat) (a : Value) (w : World) (hx : RdInts w B a xs) (hasc : Hid (∀ j, j + 1 < xs.length → xs.getD j 0 < xs.getD (j + 1) 0)) :
    Calls Try.prog 24 #[a] w fun e w' => e = .returned (.bool true) ∧ ∃ n, w.drewN n = w' := by
  obtain ⟨ao, acap, rfl, hal, ham, hac0⟩ := hx
  have hac := Lib.hid hac0; clear hac0
  unfold maxLen at ham
  go_enter Try.func24, Try.ntmps24
  go_wp2
  go_loopw [3] (fun i wr => ∃ k : Nat, 1 ≤ k ∧ i = .int .i64 k ∧ k ≤ xs.length + 1 ∧ ∃ n, w.drewN n = wr) (fun i _ => xs.length + 1 - (intOf i).toNat)
  case atStart => exact ⟨1, Nat.le_refl _, rfl, by omega, 0, rfl⟩
  case round =>
    obtain ⟨k, hk1, rfl, hk, nd, rfl⟩ := hrel
    by_cases hlt : k < xs.length
    · obtain ⟨m, rfl⟩ : ∃ m, k = m + 1 := ⟨k - 1, by omega⟩
      obtain ⟨b1, o1, rfl, _, hc1⟩ := hac.out (m + 1) hlt
      obtain ⟨b2, o2, he, _, hc2⟩ := hac.out m (by omega)
      obtain ⟨rfl, rfl⟩ : b1 = b2 ∧ o1 = o2 := by simpa using he
      clear he
      have hlt2 := hasc.out m hlt
      generalize xs.getD m 0 = z at *
      generalize xs.getD (m + 1) 0 = z' at *
      go_wp2_with fail
      go_quiet (fail)
      go_wp2
      go_roundw
      case rel => exact ⟨m + 1 + 1, by omega, by go_num, by omega, _, rfl⟩
      case measure => simp [intOf]; omega
    · go_wp2
      go_ret
      exact ⟨rfl, nd, rfl⟩




end Go.Proofs.Ytnkgbolgcmjadaa

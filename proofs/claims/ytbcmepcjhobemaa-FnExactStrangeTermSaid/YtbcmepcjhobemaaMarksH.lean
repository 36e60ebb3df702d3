/- Contracts over rows of marks: numbers laid into a row, and held there. -/
import Derived.Test.YtbcmepcjhobemaaDrawP
namespace Go.Proofs.Ytbcmepcjhobemaa
open Go.RowKit Go.Joins

/-- numbers laid one behind the other, two a mark -/
def lay (k0 n : Nat) : List (Int × Int) := (List.range n).map fun j => (((k0 + j * 2 : Nat) : Int), ((k0 + j * 2 + 1 : Nat) : Int))
theorem lay_length (k0 n : Nat) : (lay k0 n).length = n := by simp [lay]
theorem lay_succ (k0 n : Nat) : lay k0 (n + 1) = lay k0 n ++ [(((k0 + n * 2 : Nat) : Int), ((k0 + n * 2 + 1 : Nat) : Int))] := by simp [lay, List.range_succ]
theorem lay_get (k0 n j : Nat) (h : j < n) : (lay k0 n).getD j (0, 0) = (((k0 + j * 2 : Nat) : Int), ((k0 + j * 2 + 1 : Nat) : Int)) := by simp [lay, List.getD, h]
theorem lay_set (zs : List (Int × Int)) (k0 k : Nat) (hk : k < zs.length) :
    ((mcells (lay k0 k ++ zs.drop k)).set (k * 2) (.int .i64 ((k0 + k * 2 : Nat) : Int))).set (k * 2 + 1) (.int .i64 ((k0 + k * 2 + 1 : Nat) : Int)) = mcells (lay k0 (k + 1) ++ zs.drop (k + 1)) := by
  rw [List.drop_eq_getElem_cons hk, lay_succ, List.append_assoc]
  exact mcells_set (lay k0 k) (zs.drop (k + 1)) zs[k] (((k0 + k * 2 : Nat) : Int), ((k0 + k * 2 + 1 : Nat) : Int)) k (lay_length _ _)
theorem lay_I64 {k0 n : Nat} (h : k0 + n * 2 ≤ 4611686018427387904) : I64s (lay k0 n) := by
  intro m hm
  obtain ⟨j, hj, rfl⟩ := List.mem_map.1 hm
  have := List.mem_range.1 hj
  unfold I64
  dsimp only
  omega
attribute [local irreducible] lay

set_option maxHeartbeats 1000000 in
theorem heldMarkS (n : Nat) (k0 : Nat) (hk0 : n * 2 + k0 ≤ 4611686018427387904) (B : Nat) (a : Value) (w : World) (hx : RdMarks w B a (lay k0 n)) :
    Calls Try.prog 32 #[a, .int .i64 k0] w fun e w' => e = .returned (.int .i64 ((k0 + n * 2 : Nat) : Int)) ∧ w = w' := by
  obtain ⟨ao, acap, rfl, hal, ham, _, hac0⟩ := hx
  have hln := lay_length k0 n
  have hac : Hid (∀ j, j < n → ∃ b off, ao = some ⟨b, off, none⟩ ∧ b < B ∧ w.cell? ⟨b, off + j * 2, none⟩ = some (.int .i64 ((k0 + j * 2 : Nat) : Int)) ∧ w.cell? ⟨b, off + j * 2 + 1, none⟩ = some (.int .i64 ((k0 + j * 2 + 1 : Nat) : Int))) := by
    intro j hj
    obtain ⟨b, off, h1, h2, h3, h4⟩ := hac0 j (by rw [hln]; exact hj)
    rw [lay_get k0 n j hj] at h3 h4
    exact ⟨b, off, h1, h2, h3, h4⟩
  rw [hln] at hal ⊢
  clear hln hac0
  unfold maxLen at ham
  go_enter Try.func32, Try.ntmps32
  go_wp2
  go_loop [1, 5] (fun q i => ∃ k : Nat, k ≤ n ∧ i = .int .i64 k ∧ q = .int .i64 ((k0 + k * 2 : Nat) : Int)) (fun _ i => n - (intOf i).toNat)
  case atStart => exact ⟨0, Nat.zero_le _, rfl, rfl⟩
  case round =>
    obtain ⟨k, hk, rfl, rfl⟩ := hrel
    by_cases hlt : k < n
    · obtain ⟨b1, o1, rfl, _, hc1, hc2⟩ := hac.out k hlt
      have hq : k0 + k * 2 + 1 ≤ 4611686018427387904 := by omega
      have Hq : Hid (((k0 + k * 2 : Nat) : Int) + 1 + 1 = ((k0 + (k + 1) * 2 : Nat) : Int)) := by unfold Hid; omega
      have e2 : ((k0 + k * 2 + 1 : Nat) : Int) = ((k0 + k * 2 : Nat) : Int) + 1 := by omega
      rw [e2] at hc2
      clear e2
      generalize k0 + k * 2 = q at *
      go_wp2
      go_round
      case rel => exact ⟨k + 1, by omega, by go_num, by rw [← Hq.out]⟩
      case measure => simp [intOf]; omega
    · obtain rfl : k = n := by omega
      go_wp2
      go_ret
      exact ⟨rfl, rfl⟩

set_option maxHeartbeats 1000000 in
theorem markMarkS (zs : List (Int × Int)) (k0 : Nat) (hk0 : zs.length * 2 + k0 ≤ 4611686018427387904) (base : Nat) (a : Value) (w : World) (hx : w.ownsRow base TM 2 a zs.length (mcells zs)) :
    Calls Try.prog 31 #[a, .int .i64 k0] w fun e w' => e = .returned (.int .i64 ((k0 + zs.length * 2 : Nat) : Int)) ∧
      w'.ownsRow base TM 2 a zs.length (mcells (lay k0 zs.length)) ∧ w.grownBy w' a.ownBlock := by
  have hxl := mcells_length zs
  generalize hn : zs.length = n at *
  by_cases h0 : n = 0
  · subst h0
    have hz : zs = [] := List.eq_nil_of_length_eq_zero hn
    subst hz
    have hlay : lay k0 0 = [] := List.eq_nil_of_length_eq_zero (lay_length k0 0)
    have Hlay := Lib.hid hlay; clear hlay
    rcases ownsRow_forms hx with ⟨rfl, _⟩ | ⟨g, cap, rfl⟩
    all_goals
      clear hn hxl
      go_enter Try.func31, Try.ntmps31
      go_wp2
      go_loop [1, 5] (fun q i => q = .int .i64 k0 ∧ i = .int .i64 (0 : Nat)) (fun _ _ => 0)
      case atStart => exact ⟨rfl, rfl⟩
      case round =>
        obtain ⟨rfl, rfl⟩ := hrel
        go_wp2
        go_ret
        exact ⟨rfl, by rw [Hlay.out]; exact hx, World.grownBy.refl _ _⟩
  · obtain ⟨g, cap, rfl⟩ := ownsRow_form hx (by omega)
    have hnm : n ≤ 4611686018427387904 := by omega
    have Hn := Lib.hid hn; clear hn
    have Hxl := Lib.hid hxl; clear hxl
    go_enter Try.func31, Try.ntmps31
    go_wp2
    go_loopw [1, 5] (fun q i wr => ∃ k : Nat, k ≤ n ∧ i = .int .i64 k ∧ q = .int .i64 ((k0 + k * 2 : Nat) : Int) ∧
        wr.ownsRow base TM 2 (.slice (some ⟨g, 0, none⟩) n cap) n (mcells (lay k0 k ++ zs.drop k)) ∧ w.grownBy wr (some g)) (fun _ i _ => n - (intOf i).toNat)
    case atStart => exact ⟨0, Nat.zero_le _, rfl, rfl, by rw [show lay k0 0 = [] from List.eq_nil_of_length_eq_zero (lay_length k0 0)]; simpa using hx, World.grownBy.refl _ _⟩
    case round =>
      obtain ⟨k, hk, rfl, rfl, hown, hgr⟩ := hrel
      by_cases hlt : k < n
      · have hq : k0 + k * 2 + 1 ≤ 4611686018427387904 := by omega
        have Hq : Hid (((k0 + k * 2 : Nat) : Int) + 1 + 1 = ((k0 + (k + 1) * 2 : Nat) : Int)) := by unfold Hid; omega
        have hl2 : (mcells (lay k0 k ++ zs.drop k)).length = n * 2 := by rw [mcells_length]; simp [lay_length, Hn.out]; omega
        have hset := Lib.hid (lay_set zs k0 k (by rw [Hn.out]; exact hlt))
        have e2 : ((k0 + k * 2 + 1 : Nat) : Int) = ((k0 + k * 2 : Nat) : Int) + 1 := by omega
        have hset' := hset.out
        rw [e2] at hset'
        have Hset := Lib.hid hset'
        clear hset' hset e2
        generalize k0 + k * 2 = q at *
        have h1 := hown.stored (k * 2) (.int .i64 (q : Int))
        have h2 := h1.1.stored (k * 2 + 1) (.int .i64 ((q : Int) + 1))
        have hf1 := hown.frozenAt (k * 2)
        have hf2 := hown.frozenAt (k * 2 + 1)
        obtain ⟨u1, hu1⟩ : ∃ u, wr.cell? ⟨g, k * 2, none⟩ = some u := ⟨_, by rw [hown.cellAt _ (by omega)]; exact List.getElem?_eq_getElem (by omega)⟩
        obtain ⟨u2, hu2⟩ : ∃ u, wr.cell? ⟨g, k * 2 + 1, none⟩ = some u := ⟨_, by rw [hown.cellAt _ (by omega)]; exact List.getElem?_eq_getElem (by omega)⟩
        have h21 := h2.1
        rw [Hset.out] at h21
        have Hst := Lib.hid h21
        have Hgr := Lib.hid (grownBy_trans hgr (grownBy_trans h1.2 h2.2))
        clear h1 h2 h21 hown hgr hl2
        go_wp2
        go_roundw
        case rel => exact ⟨k + 1, by omega, by go_num, by rw [← Hq.out], Hst.out, Hgr.out⟩
        case measure => simp [intOf]; omega
      · obtain rfl : k = n := by omega
        go_wp2
        go_ret
        refine ⟨rfl, ?_, hgr⟩
        have hd : zs.drop k = [] := List.drop_eq_nil_of_le (by rw [Hn.out]; exact Nat.le_refl _)
        rw [hd, List.append_nil] at hown
        exact hown
end Go.Proofs.Ytbcmepcjhobemaa

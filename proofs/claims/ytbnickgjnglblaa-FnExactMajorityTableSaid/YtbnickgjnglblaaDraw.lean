/- The reference model's reader of a code: its number picks, each between 0 and the bound. -/
import Derived.Test.YtbnickgjnglblaaMerged2
import Derived.BigQuiet
import Derived.Deep.QuietTactic
import Derived.Deep.RegionWith
import Derived.Deep.DeepCutAuto
namespace Go.Proofs.Ytbnickgjnglblaa
open Go.RowKit

/-- a number drawn below n, and the reader's count one further -/
def Picked (n : Nat) (W : World) (e : Ending) (w' : World) : Prop := ∃ x : Nat, x < n ∧ e = .returned (.int .i64 x) ∧ ∃ k, W.drewN k = w'

theorem xor_shift (X : Nat) (hX : X < 9223372036854775808) : bits BinOp.xor IntKind.i64 (X : Int) ((X : Int) / 64) = ((X ^^^ X / 64 : Nat) : Int) := by
  have := bits_xor_nat X (X / 64) hX (by omega)
  rw [← this]; rfl

set_option maxRecDepth 100000 in
set_option maxHeartbeats 1000000 in
theorem pick_far (b bb off m cap p n z1 z2 i1 i2 q : Nat) (w : World) (hn1 : 1 ≤ n) (hn : n ≤ 1099511627776) (hp : p ≤ 1099511627776) (hm0 : 0 < m) (hm : m ≤ 2000) (hpm : m ≤ p)
    (hc0 : w.cell? ⟨b, 0, none⟩ = some (.slice (some ⟨bb, off, none⟩) m cap)) (hc1 : w.cell? ⟨b, 1, none⟩ = some (.int .i64 p)) (hfz : w.frozen? ⟨b, 1, none⟩ = false) (hb0 : ¬ bb = b)
    (e1 : (p : Int).tmod m = i1) (e2 : ((p : Int) * 7 + 3).tmod m = i2) (e3 : (p : Int).tdiv m = q) (b1 : i1 < m) (b2 : i2 < m) (b3 : q ≤ p)
    (hz1 : w.cell? ⟨bb, off + i1, none⟩ = some (.int .u8 z1)) (hz2 : w.cell? ⟨bb, off + i2, none⟩ = some (.int .u8 z2)) (hl1 : z1 < 256) (hl2 : z2 < 256) :
    Calls Try.prog 19 #[.pointer (some ⟨b, 0, none⟩), .int .i64 n] w (Picked n (w.setCell ⟨b, 1, none⟩ (.int .i64 (p + 1)))) := by
  have hm1 : ((m : Int) == 0) = false := by rw [beq_eq_false_iff_ne]; omega
  have hm2 : ¬ m = 0 := by omega
  go_enter Try.func19, Try.ntmps19
  go_wp2_with fail
  go_quiet (fail)
  have eX : ((z1 : Int) * 131 + z2 * 1117 + p * 29 + q * 53) = ((z1 * 131 + z2 * 1117 + p * 29 + q * 53 : Nat) : Int) := by omega
  have bX : z1 * 131 + z2 * 1117 + p * 29 + q * 53 < 9223372036854775808 := by omega
  rw [eX]
  generalize z1 * 131 + z2 * 1117 + p * 29 + q * 53 = X at *
  have hxor := xor_shift X bX
  clear eX e1 e2 e3 hz1 hz2
  generalize X ^^^ X / 64 = Y at *
  have hn2 : ((n : Int) == 0) = false := by rw [beq_eq_false_iff_ne]; omega
  have hn3 : ¬ n = 0 := by omega
  go_wp2
  go_ret
  exact ⟨Y % n, Nat.mod_lt _ (by omega), by first | rfl | (congr 1), _, rfl⟩

set_option maxRecDepth 100000 in
set_option maxHeartbeats 1000000 in
theorem pick_near (b bb off m cap p n z1 : Nat) (w : World) (hn1 : 1 ≤ n) (hn : n ≤ 1099511627776) (hp : p ≤ 1099511627776) (_hm : m ≤ 2000) (hpm : p < m)
    (hc0 : w.cell? ⟨b, 0, none⟩ = some (.slice (some ⟨bb, off, none⟩) m cap)) (hc1 : w.cell? ⟨b, 1, none⟩ = some (.int .i64 p)) (hfz : w.frozen? ⟨b, 1, none⟩ = false) (hb0 : ¬ bb = b)
    (hz1 : w.cell? ⟨bb, off + p, none⟩ = some (.int .u8 z1)) (hl1 : z1 < 256) :
    Calls Try.prog 19 #[.pointer (some ⟨b, 0, none⟩), .int .i64 n] w (Picked n (w.setCell ⟨b, 1, none⟩ (.int .i64 (p + 1)))) := by
  have hm1 : ((m : Int) == 0) = false := by rw [beq_eq_false_iff_ne]; omega
  have hn2 : ((n : Int) == 0) = false := by rw [beq_eq_false_iff_ne]; omega
  have hn3 : ¬ n = 0 := by omega
  go_enter Try.func19, Try.ntmps19
  go_wp2
  go_ret
  exact ⟨z1 % n, Nat.mod_lt _ (by omega), by first | rfl | (congr 1), 0, rfl⟩

set_option maxRecDepth 100000 in
set_option maxHeartbeats 1000000 in
theorem pick_none (b cap p n : Nat) (ao : Option Addr) (w : World) (hn1 : 1 ≤ n) (hn : n ≤ 1099511627776) (hp : p ≤ 1099511627776)
    (hc0 : w.cell? ⟨b, 0, none⟩ = some (.slice ao 0 cap)) (hc1 : w.cell? ⟨b, 1, none⟩ = some (.int .i64 p)) (hfz : w.frozen? ⟨b, 1, none⟩ = false) :
    Calls Try.prog 19 #[.pointer (some ⟨b, 0, none⟩), .int .i64 n] w (Picked n (w.setCell ⟨b, 1, none⟩ (.int .i64 (p + 1)))) := by
  go_enter Try.func19, Try.ntmps19
  go_wp2
  go_ret
  exact ⟨0, by omega, rfl, 0, rfl⟩

/-- the reader in block b has drawn at most c numbers -/
def Rd (w : World) (b c : Nat) : Prop :=
  ∃ ao m cap p, w.cell? ⟨b, 0, none⟩ = some (.slice ao m cap) ∧ m ≤ 2000 ∧
    (∀ j, j < m → ∃ bb off, ao = some ⟨bb, off, none⟩ ∧ bb < b ∧ ∃ z : Nat, z < 256 ∧ w.cell? ⟨bb, off + j, none⟩ = some (.int .u8 z)) ∧
    w.cell? ⟨b, 1, none⟩ = some (.int .i64 (p : Nat)) ∧ p ≤ c ∧ w.frozen? ⟨b, 1, none⟩ = false
theorem Rd.kept {w w' : World} {b c : Nat} (h : Rd w b c) (hk : ∀ k, k ≤ b → w'.heap[k]? = w.heap[k]?) : Rd w' b c := by
  obtain ⟨ao, m, cap, p, h0, hm, hc, h1, hp, hf⟩ := h
  refine ⟨ao, m, cap, p, ?_, hm, fun j hj => ?_, ?_, hp, ?_⟩
  · rw [← h0]; exact World.cell?_of_block (w := w) (hk b (Nat.le_refl _))
  · obtain ⟨bb, off, ha, hb, z, hz, hcell⟩ := hc j hj
    exact ⟨bb, off, ha, hb, z, hz, by rw [← hcell]; exact World.cell?_of_block (w := w) (hk bb (Nat.le_of_lt hb))⟩
  · rw [← h1]; exact World.cell?_of_block (w := w) (hk b (Nat.le_refl _))
  · rw [← hf]; exact World.frozen?_of_block (w := w) (hk b (Nat.le_refl _))
theorem Rd.lt {w : World} {b c : Nat} (h : Rd w b c) : b < w.heap.size := by
  obtain ⟨ao, m, cap, p, h0, _⟩ := h
  exact World.block_lt_of_cell? w _ h0
theorem Rd.mono {w : World} {b c c' : Nat} (h : Rd w b c) (hc : c ≤ c') : Rd w b c' := by
  obtain ⟨ao, m, cap, p, h0, hm, hcl, h1, hp, hf⟩ := h
  exact ⟨ao, m, cap, p, h0, hm, hcl, h1, by omega, hf⟩
theorem Rd.grown {w w' : World} {b c : Nat} (h : Rd w b c) {row : Option Nat} (hg : w.grownBy w' row) (hr : ∀ k, row = some k → b < k) : Rd w' b c :=
  h.kept fun k hk => hg.block k (by have := h.lt; omega) (fun e => by have := hr k e.symm; omega)
/-- what a draw leaves of the world -/
theorem grownBy_pick {w w1 : World} {b p k : Nat} (hw : (w.setCell ⟨b, 1, none⟩ (.int .i64 ((p : Int) + 1))).drewN k = w1) : w.grownBy w1 (some b) := by
  subst hw
  exact ⟨rfl, rfl, rfl, by simp [World.setCell], fun i _ hne => Below.heap_setCell _ _ _ _ (by intro e; exact hne (by rw [e]))⟩

/-- a number drawn below N: the reader is one further, nothing else is changed -/
def Drawn (N : Int) (b c : Nat) (w : World) (e : Ending) (w' : World) : Prop := ∃ x : Int, 0 ≤ x ∧ x < N ∧ e = .returned (.int .i64 x) ∧ Rd w' b (c + 1) ∧ w.grownBy w' (some b)
theorem pick_done {N : Int} {n b c p : Nat} {w : World} (hN : N = n) (hpc : p ≤ c) {ao : Option Addr} {m cap : Nat}
    (h0 : w.cell? ⟨b, 0, none⟩ = some (.slice ao m cap)) (hm : m ≤ 2000)
    (hc : ∀ j, j < m → ∃ bb off, ao = some ⟨bb, off, none⟩ ∧ bb < b ∧ ∃ z : Nat, z < 256 ∧ w.cell? ⟨bb, off + j, none⟩ = some (.int .u8 z))
    (h1 : w.cell? ⟨b, 1, none⟩ = some (.int .i64 (p : Nat))) (hf : w.frozen? ⟨b, 1, none⟩ = false) {e : Ending} {w' : World}
    (h : Picked n (w.setCell ⟨b, 1, none⟩ (.int .i64 ((p : Int) + 1))) e w') : Drawn N b c w e w' := by
  obtain ⟨x, hx, he, k, hw⟩ := h
  subst hN
  refine ⟨x, by omega, by omega, he, ?_, grownBy_pick hw⟩
  have hlow : ∀ i, i < b → w'.heap[i]? = w.heap[i]? := fun i hi => by
    have hlt : b < w.heap.size := World.block_lt_of_cell? w _ h0
    exact (grownBy_pick hw).block i (by omega) (by intro e; cases e; omega)
  subst hw
  refine ⟨ao, m, cap, p + 1, ?_, hm, fun j hj => ?_, ?_, by omega, ?_⟩
  · show (w.setCell _ _).cell? _ = _
    go_simp
  · obtain ⟨bb, off, ha, hb, z, hz, hcell⟩ := hc j hj
    exact ⟨bb, off, ha, hb, z, hz, by rw [← hcell]; exact World.cell?_of_block (w := w) (hlow bb hb)⟩
  · show (w.setCell _ _).cell? _ = _
    go_simp
  · show (w.setCell _ _).frozen? _ = _
    go_simp

theorem pick (N : Int) (b c : Nat) (w : World) (hr : Rd w b c) (hN1 : 1 ≤ N) (hN : N ≤ 1099511627776) (hc0 : c ≤ 1099511627776) :
    Calls Try.prog 19 #[.pointer (some ⟨b, 0, none⟩), .int .i64 N] w (Drawn N b c w) := by
  obtain ⟨ao, m, cap, p, h0, hm, hc, h1, hp, hf⟩ := hr
  obtain ⟨n, rfl⟩ := Int.eq_ofNat_of_zero_le (show 0 ≤ N by omega)
  by_cases hm0 : m = 0
  · subst hm0
    exact (pick_none b cap p n ao w (by omega) (by omega) (by omega) h0 h1 hf).mono fun e w' h => pick_done rfl hp h0 hm hc h1 hf h
  · by_cases hpm : p < m
    · obtain ⟨bb, off, rfl, hb, z, hz, hcell⟩ := hc p hpm
      exact (pick_near b bb off m cap p n z w (by omega) (by omega) (by omega) hm hpm h0 h1 hf (by omega) hcell hz).mono fun e w' h => pick_done rfl hp h0 hm hc h1 hf h
    · have hi1 : p % m < m := Nat.mod_lt _ (by omega)
      have hi2 : (p * 7 + 3) % m < m := Nat.mod_lt _ (by omega)
      obtain ⟨bb, off, rfl, hb, z1, hz1, hcell1⟩ := hc (p % m) hi1
      obtain ⟨bb', off', he, _, z2, hz2, hcell2⟩ := hc ((p * 7 + 3) % m) hi2
      obtain ⟨rfl, rfl⟩ : bb = bb' ∧ off = off' := by simpa using he
      have hq : p / m ≤ p := Nat.div_le_self _ _
      exact (pick_far b bb off m cap p n z1 z2 (p % m) ((p * 7 + 3) % m) (p / m) w (by omega) (by omega) (by omega) (by omega) hm (by omega) h0 h1 hf (by omega)
        rfl rfl rfl hi1 hi2 hq hcell1 hcell2 hz1 hz2).mono fun e w' h => pick_done rfl hp h0 hm hc h1 hf h

theorem rd_new (w : World) (ao : Option Addr) (m cap : Nat) (T : TypeId) (hm : m ≤ 2000)
    (hc : ∀ j, j < m → ∃ bb off, ao = some ⟨bb, off, none⟩ ∧ bb < w.heap.size ∧ ∃ z : Nat, z < 256 ∧ w.cell? ⟨bb, off + j, none⟩ = some (.int .u8 z)) :
    Rd (w.alloc (.cells #[.slice ao m cap, .int .i64 0] T)) w.heap.size 0 := by
  refine ⟨ao, m, cap, 0, by go_simp, hm, fun j hj => ?_, by go_simp, Nat.le_refl _, by go_simp⟩
  obtain ⟨bb, off, ha, hb, z, hz, hcell⟩ := hc j hj
  exact ⟨bb, off, ha, hb, z, hz, by rw [← hcell]; exact World.cell?_of_block (w := w) (Below.heap_alloc _ _ _ hb)⟩

set_option maxHeartbeats 1000000 in
theorem l20Open (a : Value) (n : Nat) (w : World) (hr : RdBytes w w.heap.size a n) :
    Calls Try.prog 18 #[a] w fun e w' => ∃ b, e = .returned (.pointer (some ⟨b, 0, none⟩)) ∧ w.heap.size ≤ b ∧ Rd w' b 0 ∧ Below w.heap.size w w' := by
  obtain ⟨ao, cap, rfl, hl, hm, hc⟩ := hr
  unfold maxLen at hm
  by_cases hn : 2000 < n
  · obtain ⟨bb, off, rfl, hb, z, hz, hcell⟩ := hc 0 (by omega)
    have Hc := Lib.hid hc; clear hc
    go_enter Try.func18, Try.ntmps18
    go_wp2
    go_ret
    exact ⟨_, rfl, Nat.le_refl _, rd_new _ _ _ _ _ (Nat.le_refl _) (fun j hj => Hc.out j (by omega)), (Below.refl _ _).alloc (Nat.le_refl _) _⟩
  · have Hc := Lib.hid hc; clear hc
    go_enter Try.func18, Try.ntmps18
    go_wp2
    go_ret
    exact ⟨_, rfl, Nat.le_refl _, rd_new _ _ _ _ _ (by omega) Hc.out, (Below.refl _ _).alloc (Nat.le_refl _) _⟩

/-- two numbers of which P holds; the reader is at most at c -/
def Drew2 (P : Int → Int → Prop) (b c : Nat) (w : World) (e : Ending) (w' : World) : Prop :=
  ∃ p x : Int, P p x ∧ e = .returned (.tuple #[.int .i64 p, .int .i64 x]) ∧ Rd w' b c ∧ w.grownBy w' (some b)
def PW (p x : Int) : Prop := 1 ≤ p ∧ p ≤ 8 ∧ 0 ≤ x ∧ x < 32
theorem grownBy_drew0 {a b : World} {row : Option Nat} (h : a.drew.grownBy b row) : a.grownBy b row := ⟨h.os, h.tape, h.output, h.size, h.block⟩
theorem div_small {x : Int} (h0 : 0 ≤ x) (h1 : x < 40) : 0 ≤ x / 39 ∧ x / 39 ≤ 1 := by omega


end Go.Proofs.Ytbnickgjnglblaa

/- Contract of the reference's l11Read: a tree read from a place of a text on. -/
import Derived.Test.YtefmoljipbbmmaaDoorMerged20
namespace Go.Proofs.YtefmoljipbbmmaaDoor
open Go.RowKit Go.Joins
/-- what a call hands back that reads a tree from a place on, behind other splits -/
def ReadOut11 (s : List UInt8) (k : Nat) (sp : List Sp3) (f base : Nat) (w : World) (e : Ending) (w' : World) : Prop :=
  Below w.heap.size w w' ∧ ∃ ao len cap fi nx, e = .returned (.tuple #[.slice ao len cap, .int .i64 fi, .int .i64 nx]) ∧
    ((∃ t j, nx = ((j : Nat) : Int) ∧ k < j ∧ j ≤ s.length ∧ readT f (nats8 (s.drop k)) sp.length = some (t, nats8 (s.drop j)) ∧ len = (sp ++ t.flat sp.length).length ∧ fi = t.tgt sp.length ∧ w'.ownsRow base TSp 3 (.slice ao len cap) len (scells (sp ++ t.flat sp.length))) ∨
     (nx = -1 ∧ fi = -1 ∧ readT f (nats8 (s.drop k)) sp.length = none))
def ReadC11 (F : Nat) (s : List UInt8) (f : Nat) : Prop := ∀ (k : Nat) (sp : List Sp3), k ≤ s.length → sp.length ≤ 15 → 16 ≤ f + sp.length → ∀ (base : Nat) (v : Value) (w : World), w.ownsRow base TSp 3 v sp.length (scells sp) → base ≤ w.heap.size →
  Calls Tryd.prog F #[sv s, .int .i64 (k : Int), v] w (ReadOut11 s k sp f base w)
theorem low_cases (x : Nat) (h : ¬ (48 ≤ x ∧ x ≤ 53)) : x < 48 ∨ (53 < x ∧ x < 97) ∨ (97 ≤ x ∧ 100 < x) ∨ (97 ≤ x ∧ x ≤ 100) := by omega
theorem leaf_flat (g : Int) (n : Nat) (sp : List Sp3) : sp ++ (PT.leaf g).flat n = sp := by simp [PT.flat]
attribute [local irreducible] holds tabN tabV holdsV sameV followsV alwaysV matterV claimOk mayT mayV ctabV ctabN storyV storyOk storyN storyT ctermV ctermL followsF agreeN agreeB closeB chkN checks nextOk ints hfV clL provesF onceB proofV noneK growR clashF leastU unkN scells findF growT foundS foundG bt treeOf tbF readT nats8
set_option maxRecDepth 100000 in
set_option maxHeartbeats 4000000 in
theorem specRead_end (s : List UInt8) (_hs : s.length ≤ 200) (f k : Nat) (sp : List Sp3) (hk : k = s.length) (base : Nat) (v : Value) (w : World) (ho : w.ownsRow base TSp 3 v sp.length (scells sp)) :
    Calls Tryd.prog 34 #[sv s, .int .i64 (k : Int), v] w (ReadOut11 s k sp (f + 1) base w) := by
  have Hr : Hid (readT (f + 1) (nats8 (s.drop k)) sp.length = none) := by unfold Hid; rw [nats8_end (by omega), readT_nil]
  obtain ⟨so, scap, rfl⟩ := own_len ho
  obtain ⟨m, hm⟩ : ∃ m, m = sp.length := ⟨_, rfl⟩
  rw [← hm] at ho ⊢
  have h2 : (s.length : Int) ≤ (k : Int) := by omega
  clear hk ho
  have Hm := Lib.hid hm; clear hm
  go_enter Tryd.func34, Tryd.ntmps34
  go_wp2
  go_ret3
  exact ⟨Below.refl _ _, so, m, scap, -1, -1, rfl, .inr ⟨rfl, rfl, Hr.out⟩⟩
set_option maxRecDepth 100000 in
set_option maxHeartbeats 4000000 in
theorem specRead_leaf (s : List UInt8) (hs : s.length ≤ 200) (f k : Nat) (sp : List Sp3) (hk : k < s.length) (c : UInt8) (hn8 : nats8 (s.drop k) = c.toNat :: nats8 (s.drop (k + 1))) (hget : ∀ h', (⟨s.toArray⟩ : ByteArray)[k]'h' = c) (hc : c.toNat = 42 ∨ (48 ≤ c.toNat ∧ c.toNat ≤ 53)) (base : Nat) (v : Value) (w : World) (ho : w.ownsRow base TSp 3 v sp.length (scells sp)) :
    Calls Tryd.prog 34 #[sv s, .int .i64 (k : Int), v] w (ReadOut11 s k sp (f + 1) base w) := by
  have h2 : (k : Int) < (s.length : Int) := by omega
  have h0 : (0 : Int) ≤ (k : Int) := by omega
  have hw : IntKind.i64.wrap ((k : Int) + 1) = (k : Int) + 1 := IntWalk.i64_in _ (by omega)
  obtain ⟨so, scap, rfl⟩ := own_len ho
  obtain ⟨m, hm⟩ : ∃ m, m = sp.length := ⟨_, rfl⟩
  rw [← hm] at ho ⊢
  by_cases h42 : c.toNat = 42
  · have Hr : Hid (readT (f + 1) (nats8 (s.drop k)) sp.length = some (.leaf (-1), nats8 (s.drop (k + 1)))) := by unfold Hid; rw [hn8, h42, readT_star]
    have Ho : Hid (w.ownsRow base TSp 3 (.slice so m scap) m (scells (sp ++ (PT.leaf (-1)).flat sp.length))) := by unfold Hid; rw [leaf_flat]; exact ho
    have Hl : Hid (m = (sp ++ (PT.leaf (-1)).flat sp.length).length) := by unfold Hid; rw [leaf_flat]; exact hm
    have e42 : (c.toNat : Int) = 42 := by omega
    have Hkl : Hid (k + 1 ≤ s.length) := hk
    clear hc h42 hn8 ho hk
    have Hm := Lib.hid hm; clear hm
    go_enter Tryd.func34, Tryd.ntmps34
    go_wp2
    go_ret3
    exact ⟨Below.refl _ _, so, m, scap, -1, (k : Int) + 1, rfl, .inl ⟨.leaf (-1), k + 1, by omega, by omega, Hkl.out, Hr.out, Hl.out, rfl, Ho.out⟩⟩
  · have hc' : 48 ≤ c.toNat ∧ c.toNat ≤ 53 := by omega
    obtain ⟨d, hd, hd5⟩ : ∃ d : Nat, c.toNat = 48 + d ∧ d ≤ 5 := ⟨c.toNat - 48, by omega, by omega⟩
    have Hr : Hid (readT (f + 1) (nats8 (s.drop k)) sp.length = some (.leaf (-2 - (d : Int)), nats8 (s.drop (k + 1)))) := by unfold Hid; rw [hn8, readT_digit hc'.1 hc'.2, hd, show 48 + d - 48 = d by omega]
    have Ho : Hid (w.ownsRow base TSp 3 (.slice so m scap) m (scells (sp ++ (PT.leaf (-2 - (d : Int))).flat sp.length))) := by unfold Hid; rw [leaf_flat]; exact ho
    have Hl : Hid (m = (sp ++ (PT.leaf (-2 - (d : Int))).flat sp.length).length) := by unfold Hid; rw [leaf_flat]; exact hm
    have Hkl : Hid (k + 1 ≤ s.length) := hk
    have h6 : d = 0 ∨ d = 1 ∨ d = 2 ∨ d = 3 ∨ d = 4 ∨ d = 5 := by omega
    have hcc : c = UInt8.ofNat (48 + d) := by rw [← hd]; simp
    clear hc hc' h42 hn8 ho hk hd hd5
    have Hm := Lib.hid hm; clear hm
    rcases h6 with rfl | rfl | rfl | rfl | rfl | rfl
    all_goals
      subst hcc
      go_enter Tryd.func34, Tryd.ntmps34
      go_wp2_with fail
      go_quiet (fail)
      go_wp2
      go_ret3
      first
        | exact ⟨Below.refl _ _, so, m, scap, _, _, rfl, .inl ⟨_, k + 1, by omega, by omega, Hkl.out, Hr.out, Hl.out, rfl, Ho.out⟩⟩
        | exact ⟨below_drew1 (Below.refl _ _), so, m, scap, _, _, rfl, .inl ⟨_, k + 1, by omega, by omega, Hkl.out, Hr.out, Hl.out, rfl, Ho.out⟩⟩
        | exact ⟨below_drewN (Below.refl _ _) _, so, m, scap, _, _, rfl, .inl ⟨_, k + 1, by omega, by omega, Hkl.out, Hr.out, Hl.out, rfl, Ho.out⟩⟩
set_option maxRecDepth 100000 in
set_option maxHeartbeats 8000000 in
theorem specRead_bad (s : List UInt8) (hs : s.length ≤ 200) (f k : Nat) (sp : List Sp3) (hk : k < s.length) (c : UInt8) (hget : ∀ h', (⟨s.toArray⟩ : ByteArray)[k]'h' = c) (h42 : c.toNat ≠ 42) (hdig : ¬ (48 ≤ c.toNat ∧ c.toNat ≤ 53))
    (hr : readT (f + 1) (nats8 (s.drop k)) sp.length = none)
    (hbad : c.toNat < 97 ∨ 100 < c.toNat ∨ s.length ≤ k + 1 ∨ (∃ d : UInt8, k + 1 < s.length ∧ (∀ h', (⟨s.toArray⟩ : ByteArray)[k + 1]'h' = d) ∧ d.toNat ≠ 40) ∨ (∃ d : UInt8, k + 1 < s.length ∧ (∀ h', (⟨s.toArray⟩ : ByteArray)[k + 1]'h' = d) ∧ d.toNat = 40 ∧ 15 ≤ sp.length)) (base : Nat) (v : Value) (w : World) (ho : w.ownsRow base TSp 3 v sp.length (scells sp)) :
    Calls Tryd.prog 34 #[sv s, .int .i64 (k : Int), v] w (ReadOut11 s k sp (f + 1) base w) := by
  have h2 : (k : Int) < (s.length : Int) := by omega
  have h0 : (0 : Int) ≤ (k : Int) := by omega
  have hw : IntKind.i64.wrap ((k : Int) + 1) = (k : Int) + 1 := IntWalk.i64_in _ (by omega)
  obtain ⟨so, scap, rfl⟩ := own_len ho
  obtain ⟨m, hm⟩ : ∃ m, m = sp.length := ⟨_, rfl⟩
  rw [← hm] at ho ⊢
  have Hr := Lib.hid hr
  have e42 : ¬ (c.toNat : Int) = 42 := by omega
  have hlow := low_cases c.toNat hdig
  have hkn : (k : Int) + 1 = ((k + 1 : Nat) : Int) := by omega
  rcases hlow with hlow | ⟨hl1, hl2⟩ | ⟨hl1, hl2⟩ | ⟨hl1, hl2⟩
  · have a1 : (c.toNat : Int) < 48 := by omega
    have a2 : (c.toNat : Int) < 97 := by omega
    clear hbad hr ho hm hlow hdig h42 hkn
    go_enter Tryd.func34, Tryd.ntmps34
    go_wp2
    go_ret3
    exact ⟨Below.refl _ _, so, m, scap, -1, -1, rfl, .inr ⟨rfl, rfl, Hr.out⟩⟩
  · have a1 : (48 : Int) ≤ (c.toNat : Int) := by omega
    have a2 : (53 : Int) < (c.toNat : Int) := by omega
    have a3 : (c.toNat : Int) < 97 := by omega
    clear hbad hr ho hm hl1 hl2 hdig h42 hkn
    go_enter Tryd.func34, Tryd.ntmps34
    go_wp2
    go_ret3
    exact ⟨Below.refl _ _, so, m, scap, -1, -1, rfl, .inr ⟨rfl, rfl, Hr.out⟩⟩
  · have a1 : (48 : Int) ≤ (c.toNat : Int) := by omega
    have a2 : (53 : Int) < (c.toNat : Int) := by omega
    have a3 : (97 : Int) ≤ (c.toNat : Int) := by omega
    have a4 : (100 : Int) < (c.toNat : Int) := by omega
    clear hbad hr ho hm hl1 hl2 hdig h42 hkn
    go_enter Tryd.func34, Tryd.ntmps34
    go_wp2
    go_ret3
    exact ⟨Below.refl _ _, so, m, scap, -1, -1, rfl, .inr ⟨rfl, rfl, Hr.out⟩⟩
  · have a1 : (48 : Int) ≤ (c.toNat : Int) := by omega
    have a2 : (53 : Int) < (c.toNat : Int) := by omega
    have a3 : (97 : Int) ≤ (c.toNat : Int) := by omega
    have a4 : (c.toNat : Int) ≤ 100 := by omega
    have hkt : ((k : Int) + 1).toNat = k + 1 := by omega
    have hk0 : (0 : Int) ≤ (k : Int) + 1 := by omega
    rcases hbad with hbad | hbad | hbad | ⟨d, hk1, hd, hd40⟩ | ⟨d, hk1, hd, hd40, h15⟩
    · omega
    · omega
    · have a5 : (s.length : Int) ≤ (k : Int) + 1 := by omega
      clear hbad hr ho hm hl1 hl2 hdig h42 hkn
      go_enter Tryd.func34, Tryd.ntmps34
      go_wp2
      go_ret3
      exact ⟨Below.refl _ _, so, m, scap, -1, -1, rfl, .inr ⟨rfl, rfl, Hr.out⟩⟩
    · have a5 : (k : Int) + 1 < (s.length : Int) := by omega
      have a6 : ¬ (d.toNat : Int) = 40 := by omega
      clear hr ho hm hl1 hl2 hdig h42 hkn hd40
      go_enter Tryd.func34, Tryd.ntmps34
      go_wp2
      go_ret3
      exact ⟨Below.refl _ _, so, m, scap, -1, -1, rfl, .inr ⟨rfl, rfl, Hr.out⟩⟩
    · have a5 : (k : Int) + 1 < (s.length : Int) := by omega
      have a6 : (d.toNat : Int) = 40 := by omega
      have a7 : (15 : Int) ≤ (m : Int) := by omega
      clear hr ho hm hl1 hl2 hdig h42 hkn hd40 h15
      go_enter Tryd.func34, Tryd.ntmps34
      go_wp2
      go_ret3
      exact ⟨Below.refl _ _, so, m, scap, -1, -1, rfl, .inr ⟨rfl, rfl, Hr.out⟩⟩
end Go.Proofs.YtefmoljipbbmmaaDoor

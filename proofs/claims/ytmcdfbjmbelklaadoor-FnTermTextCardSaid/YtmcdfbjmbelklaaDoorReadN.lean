/- Contracts of the reference's reader of texts, by places: one part. -/
import Derived.Test.YtmcdfbjmbelklaaDoorReadM
import Derived.Test.YtmcdfbjmbelklaaDoorReadI
import Derived.Test.YtmcdfbjmbelklaaDoorTextS
namespace Go.Proofs.YtmcdfbjmbelklaaDoor
open Go.RowKit Go.Joins
section
variable {nl nd : Nat}
/-- what has been read before stands ahead -/
theorem rd_frame : ∀ (f mode : Nat) (s : List UInt8) (m0 m : List (Int × Int)), Mode mode → rd nl nd f mode s (m0 ++ m) = (rd nl nd f mode s m).map (fun x => (x.1, m0 ++ x.2))
  | 0, _, _, _, _, _ => by simp [rd]
  | f + 1, mode, s, m0, m, hm => by
    rcases hm with rfl | rfl | hk | ⟨k, hk3, hk5, rfl⟩
    · cases s with
      | nil => rw [rd_held_nil, rd_held_nil]; rfl
      | cons c r =>
        rw [rd_held, rd_held, rd_frame f 5 r m0 m (.inr (.inr (.inl ⟨by omega, by omega⟩)))]
        split
        · cases hx : rd nl nd f 5 r m with
          | none => rfl
          | some y =>
            obtain ⟨s1, m1⟩ := y
            cases s1 with
            | nil => rfl
            | cons d r' =>
              show (if d = 41 then some (r', m0 ++ m1) else none) = Option.map _ (if d = 41 then some (r', m1) else none)
              split <;> rfl
        · split
          · simp
          · split <;> simp
    · cases s with
      | nil => rw [rd_not_nil, rd_not_nil, rd_frame f 1 [] m0 m (.inl rfl)]
      | cons c r =>
        rw [rd_not, rd_not, rd_frame f 1 (c :: r) m0 m (.inl rfl), rd_frame f 2 r m0 m (.inr (.inl rfl))]
        split
        · cases hx : rd nl nd f 2 r m with
          | none => rfl
          | some y => simp
        · rfl
    · rw [rd_level hk, rd_level hk, rd_frame f (mode - 1) s m0 m (by unfold Mode; omega)]
      cases hx : rd nl nd f (mode - 1) s m with
      | none => rfl
      | some y =>
        obtain ⟨s1, m1⟩ := y
        exact rd_frame f (mode + 10) s1 m0 m1 (.inr (.inr (.inr ⟨mode, hk.1, hk.2, rfl⟩)))
    · cases s with
      | nil => rw [rd_loop_nil ⟨hk3, hk5⟩, rd_loop_nil ⟨hk3, hk5⟩]; rfl
      | cons c r =>
        rw [rd_loop ⟨hk3, hk5⟩, rd_loop ⟨hk3, hk5⟩, rd_frame f (k - 1) r m0 m (by unfold Mode; omega)]
        split
        · cases hx : rd nl nd f (k - 1) r m with
          | none => rfl
          | some y =>
            obtain ⟨s1, m1⟩ := y
            show rd nl nd f (k + 10) s1 (m0 ++ m1 ++ [((k : Int), 0)]) = _
            rw [List.append_assoc]
            exact rd_frame f (k + 10) s1 m0 (m1 ++ [((k : Int), 0)]) (.inr (.inr (.inr ⟨k, hk3, hk5, rfl⟩)))
        · rfl
theorem rdAt_frame {mode : Nat} (s : List UInt8) (m : List (Int × Int)) (hm : Mode mode) : rdAt nl nd mode s m = (rdAt nl nd mode s []).map (fun x => (x.1, m ++ x.2)) := by
  have := rd_frame (nl := nl) (nd := nd) (20 * s.length + 20) mode s m [] hm
  rw [List.append_nil] at this
  exact this
end
/-- what the reference's reader hands back from place k on: a row of its own, and the next place, or -1 -/
def LevOut (s : List UInt8) (k mode : Nat) (w : World) (e : Ending) (w' : World) : Prop :=
  Below w.heap.size w w' ∧ ∃ (g cap : Nat) (t : List (Int × Int)) (n : Int), e = .returned (.tuple #[.slice (some ⟨g, 0, none⟩) t.length cap, .int .i64 n]) ∧
    w'.ownsRow w.heap.size TM 2 (.slice (some ⟨g, 0, none⟩) t.length cap) t.length (mcells t) ∧
    ((∃ j : Nat, n = j ∧ k < j ∧ j ≤ s.length ∧ t.length ≤ j - k ∧ rdAt 4 6 mode (s.drop k) [] = some (s.drop j, t)) ∨ (n = -1 ∧ t.length ≤ s.length - k ∧ rdAt 4 6 mode (s.drop k) [] = none))
def AtC (s : List UInt8) (k : Nat) : Prop := ∀ w : World, Calls Tryd.prog 52 #[sv s, .int .i64 k] w (LevOut s k 2 w)
def LevC (s : List UInt8) (mode k : Nat) : Prop := ∀ w : World, Calls Tryd.prog 37 #[sv s, .int .i64 k, .int .i64 mode] w (LevOut s k mode w)
theorem drop_at {s : List UInt8} {k : Nat} (hk : k < s.length) : ∃ c, s.drop k = c :: s.drop (k + 1) ∧ ∀ h', (⟨s.toArray⟩ : ByteArray)[k]'h' = c := by
  refine ⟨s[k], by rw [List.drop_eq_getElem_cons hk], fun h' => ?_⟩
  show s.toArray[k]'(by simpa using hk) = _
  simp
set_option maxRecDepth 100000 in
set_option maxHeartbeats 1000000 in
theorem l2Atom_end (s : List UInt8) (k : Nat) (hs : s.length ≤ 60) (hk : k = s.length) : AtC s k := by
  intro w
  have Hr : Hid (rdAt 4 6 2 (s.drop k) [] = none) := by unfold Hid; rw [hk, List.drop_length, rdAt_not_nil]
  have h1 : ¬ (k : Int) < (s.length : Int) := by omega
  have h2 : (s.length : Int) ≤ (k : Int) := by omega
  have h0 : ¬ (k : Int) < 0 := by omega
  clear hk hs
  go_enter Tryd.func52, Tryd.ntmps52
  go_wp2
  go_ret2
  exact ⟨(Below.refl _ _).alloc (Nat.le_refl _) _, w.heap.size, 0, [], -1, rfl, World.ownsRow_made w #[] 0 (Nat.le_refl _) (Nat.zero_le _) rfl, .inr ⟨rfl, Nat.zero_le _, Hr.out⟩⟩
set_option maxRecDepth 100000 in
set_option maxHeartbeats 1000000 in
theorem l2Atom_letter (s : List UInt8) (k : Nat) (hs : s.length ≤ 60) (hk : k < s.length) (c : UInt8) (hd : s.drop k = c :: s.drop (k + 1)) (hget : ∀ h', (⟨s.toArray⟩ : ByteArray)[k]'h' = c) (h : 97 ≤ c.toNat ∧ c.toNat < 97 + 4) : AtC s k := by
  intro w
  have Hr : Hid (rdAt 4 6 2 (s.drop k) [] = some (s.drop (k + 1), [(0, (c.toNat : Int) - 97)])) := by
    unfold Hid
    rw [hd, rdAt_not, if_neg (by intro e; subst e; simp at h), rdAt_held, if_neg (by intro e; subst e; simp at h), if_pos h]; rfl
  have h1 : (k : Int) < (s.length : Int) := by omega
  have h0 : ¬ (k : Int) < 0 := by omega
  have h2 : ¬ (s.length : Int) ≤ (k : Int) := by omega
  have ha : (97 : Int) ≤ (c.toNat : Int) := by omega
  have hb : (c.toNat : Int) ≤ 100 := by omega
  have hw : IntKind.i64.wrap ((k : Int) + 1) = (k : Int) + 1 := IntWalk.i64_in _ (by omega)
  clear h
  go_enter Tryd.func52, Tryd.ntmps52
  go_wp2
  go_ret2
  exact ⟨(Below.refl _ _).alloc (Nat.le_refl _) _, w.heap.size, 1, [(0, (c.toNat : Int) - 97)], (k : Int) + 1, rfl, own_new w _ 0 _ (Nat.le_refl _), .inl ⟨k + 1, by omega, by omega, by omega, by simp, Hr.out⟩⟩
set_option maxRecDepth 100000 in
set_option maxHeartbeats 1000000 in
theorem l2Atom_digit (s : List UInt8) (k : Nat) (hs : s.length ≤ 60) (hk : k < s.length) (c : UInt8) (hd : s.drop k = c :: s.drop (k + 1)) (hget : ∀ h', (⟨s.toArray⟩ : ByteArray)[k]'h' = c) (h : 48 ≤ c.toNat ∧ c.toNat < 48 + 6) : AtC s k := by
  intro w
  have Hr : Hid (rdAt 4 6 2 (s.drop k) [] = some (s.drop (k + 1), [(1, (c.toNat : Int) - 48)])) := by
    unfold Hid
    rw [hd, rdAt_not, if_neg (by intro e; subst e; simp at h), rdAt_held, if_neg (by intro e; subst e; simp at h), if_neg (by omega), if_pos h]; rfl
  have h1 : (k : Int) < (s.length : Int) := by omega
  have h0 : ¬ (k : Int) < 0 := by omega
  have h2 : ¬ (s.length : Int) ≤ (k : Int) := by omega
  have ha : (48 : Int) ≤ (c.toNat : Int) := by omega
  have hb : (c.toNat : Int) ≤ 53 := by omega
  have hc : ¬ (97 : Int) ≤ (c.toNat : Int) := by omega
  have hw : IntKind.i64.wrap ((k : Int) + 1) = (k : Int) + 1 := IntWalk.i64_in _ (by omega)
  clear h
  go_enter Tryd.func52, Tryd.ntmps52
  go_wp2
  go_ret2
  exact ⟨(Below.refl _ _).alloc (Nat.le_refl _) _, w.heap.size, 1, [(1, (c.toNat : Int) - 48)], (k : Int) + 1, rfl, own_new w _ 1 _ (Nat.le_refl _), .inl ⟨k + 1, by omega, by omega, by omega, by simp, Hr.out⟩⟩
set_option maxRecDepth 100000 in
set_option maxHeartbeats 1000000 in
theorem l2Atom_other (s : List UInt8) (k : Nat) (_hs : s.length ≤ 60) (hk : k < s.length) (c : UInt8) (hd : s.drop k = c :: s.drop (k + 1)) (hget : ∀ h', (⟨s.toArray⟩ : ByteArray)[k]'h' = c) (h0c : ¬ (97 ≤ c.toNat ∧ c.toNat < 97 + 4)) (h1c : ¬ (48 ≤ c.toNat ∧ c.toNat < 48 + 6)) (h33 : c.toNat ≠ 33) (h40 : c.toNat ≠ 40) : AtC s k := by
  intro w
  have Hr : Hid (rdAt 4 6 2 (s.drop k) [] = none) := by
    unfold Hid
    rw [hd, rdAt_not, if_neg (by intro e; subst e; simp at h33), rdAt_held, if_neg (by intro e; subst e; simp at h40), if_neg h0c, if_neg h1c]
  have h1 : (k : Int) < (s.length : Int) := by omega
  have h0 : ¬ (k : Int) < 0 := by omega
  have h2 : ¬ (s.length : Int) ≤ (k : Int) := by omega
  have e33 : ¬ (c.toNat : Int) = 33 := by omega
  have e40 : ¬ (c.toNat : Int) = 40 := by omega
  have hx : Hid ((c.toNat : Int) < 48 ∨ (53 < (c.toNat : Int) ∧ (c.toNat : Int) < 97) ∨ 100 < (c.toNat : Int)) := by unfold Hid; omega
  clear h0c h1c h33 h40
  rcases hx.out with h | ⟨h, h'⟩ | h
  · have h5 : ¬ (48 : Int) ≤ (c.toNat : Int) := by omega
    have h3 : ¬ (97 : Int) ≤ (c.toNat : Int) := by omega
    go_enter Tryd.func52, Tryd.ntmps52
    go_wp2
    go_ret2
    exact ⟨(Below.refl _ _).alloc (Nat.le_refl _) _, w.heap.size, 0, [], -1, rfl, World.ownsRow_made w #[] 0 (Nat.le_refl _) (Nat.zero_le _) rfl, .inr ⟨rfl, Nat.zero_le _, Hr.out⟩⟩
  · have h5 : (48 : Int) ≤ (c.toNat : Int) := by omega
    have h3 : ¬ (97 : Int) ≤ (c.toNat : Int) := by omega
    have h4 : ¬ (c.toNat : Int) ≤ 53 := by omega
    go_enter Tryd.func52, Tryd.ntmps52
    go_wp2
    go_ret2
    exact ⟨(Below.refl _ _).alloc (Nat.le_refl _) _, w.heap.size, 0, [], -1, rfl, World.ownsRow_made w #[] 0 (Nat.le_refl _) (Nat.zero_le _) rfl, .inr ⟨rfl, Nat.zero_le _, Hr.out⟩⟩
  · have h5 : (48 : Int) ≤ (c.toNat : Int) := by omega
    have h3 : (97 : Int) ≤ (c.toNat : Int) := by omega
    have h4 : ¬ (c.toNat : Int) ≤ 53 := by omega
    have h6 : ¬ (c.toNat : Int) ≤ 100 := by omega
    go_enter Tryd.func52, Tryd.ntmps52
    go_wp2
    go_ret2
    exact ⟨(Below.refl _ _).alloc (Nat.le_refl _) _, w.heap.size, 0, [], -1, rfl, World.ownsRow_made w #[] 0 (Nat.le_refl _) (Nat.zero_le _) rfl, .inr ⟨rfl, Nat.zero_le _, Hr.out⟩⟩
set_option maxRecDepth 100000 in
set_option maxHeartbeats 1000000 in
theorem l2Atom_open (s : List UInt8) (k : Nat) (hs : s.length ≤ 60) (hk : k < s.length) (hd : s.drop k = 40 :: s.drop (k + 1)) (hget : ∀ h', (⟨s.toArray⟩ : ByteArray)[k]'h' = 40) (h5 : LevC s 5 (k + 1)) : AtC s k := by
  intro w
  have hr := rdAt_not (nl := 4) (nd := 6) 40 (s.drop (k + 1)) []
  rw [if_neg (by decide), rdAt_held, if_pos rfl, ← hd] at hr
  have Hr := Lib.hid hr; clear hr
  have h1 : (k : Int) < (s.length : Int) := by omega
  have h0 : ¬ (k : Int) < 0 := by omega
  have h2 : ¬ (s.length : Int) ≤ (k : Int) := by omega
  have hw : IntKind.i64.wrap ((k : Int) + 1) = ((k + 1 : Nat) : Int) := by rw [IntWalk.i64_in _ (by omega)]; omega
  have H5 := Lib.hid (h5 w)
  clear h5
  go_enter Tryd.func52, Tryd.ntmps52
  go_wp2_with fail
  refine H5.out.mono ?_
  rintro e w1 ⟨hb1, g, cap, t, n, rfl, hown, ⟨j, rfl, hj1, hj2, hj3, hrd⟩ | ⟨rfl, hj3, hrd⟩⟩
  · have Hb1 := Lib.hid hb1
    have Hown := Lib.hid hown
    have hn0 : ¬ (j : Int) < 0 := by omega
    clear hb1 hown
    by_cases hjl : j < s.length
    · obtain ⟨d, hdd, hget2⟩ := drop_at hjl
      have hjl1 : (j : Int) < (s.length : Int) := by omega
      have hjl2 : ¬ (s.length : Int) ≤ (j : Int) := by omega
      have hwj : IntKind.i64.wrap ((j : Int) + 1) = ((j + 1 : Nat) : Int) := by rw [IntWalk.i64_in _ (by omega)]; omega
      by_cases h41 : d = 41
      · subst h41
        have Hr2 : Hid (rdAt 4 6 2 (s.drop k) [] = some (s.drop (j + 1), t)) := by unfold Hid; rw [Hr.out, hrd, hdd]; rfl
        clear hrd hdd
        go_wp2
        go_ret2
        exact ⟨Hb1.out, g, cap, t, _, rfl, Hown.out, .inl ⟨j + 1, rfl, by omega, by omega, by omega, Hr2.out⟩⟩
      · have Hr2 : Hid (rdAt 4 6 2 (s.drop k) [] = none) := by unfold Hid; rw [Hr.out, hrd, hdd]; exact if_neg h41
        have hne : ¬ (d.toNat : Int) = 41 := by
          intro e; apply h41; apply UInt8.toNat_inj.1; show d.toNat = 41; omega
        have hneb : ((d.toNat : Int) != 41) = true := by simpa using hne
        have hnec : ((d.toNat : Int) == 41) = false := by simpa using hne
        clear hrd hdd h41
        go_wp2
        go_ret2
        exact ⟨Hb1.out.alloc (by have := Hb1.out.size; omega) _, w1.heap.size, 0, [], -1, rfl, World.ownsRow_made w1 #[] 0 (Hb1.out.size) (Nat.zero_le _) rfl, .inr ⟨rfl, Nat.zero_le _, Hr2.out⟩⟩
    · have Hr2 : Hid (rdAt 4 6 2 (s.drop k) [] = none) := by unfold Hid; rw [Hr.out, hrd, List.drop_of_length_le (by omega)]
      have hjl1 : ¬ (j : Int) < (s.length : Int) := by omega
      have hjl2 : (s.length : Int) ≤ (j : Int) := by omega
      clear hrd
      go_wp2
      go_ret2
      exact ⟨Hb1.out.alloc (by have := Hb1.out.size; omega) _, w1.heap.size, 0, [], -1, rfl, World.ownsRow_made w1 #[] 0 (Hb1.out.size) (Nat.zero_le _) rfl, .inr ⟨rfl, Nat.zero_le _, Hr2.out⟩⟩
  · have Hb1 := Lib.hid hb1
    have Hr2 : Hid (rdAt 4 6 2 (s.drop k) [] = none) := by unfold Hid; rw [Hr.out, hrd]
    clear hb1 hown hrd
    go_wp2
    go_ret2
    exact ⟨Hb1.out.alloc (by have := Hb1.out.size; omega) _, w1.heap.size, 0, [], -1, rfl, World.ownsRow_made w1 #[] 0 (Hb1.out.size) (Nat.zero_le _) rfl, .inr ⟨rfl, Nat.zero_le _, Hr2.out⟩⟩
set_option maxRecDepth 100000 in
set_option maxHeartbeats 1000000 in
theorem l2Atom_not (s : List UInt8) (k : Nat) (hs : s.length ≤ 60) (hk : k < s.length) (hd : s.drop k = 33 :: s.drop (k + 1)) (hget : ∀ h', (⟨s.toArray⟩ : ByteArray)[k]'h' = 33) (h2c : AtC s (k + 1)) : AtC s k := by
  intro w
  obtain ⟨im, hmi, hmz0, hmz1, hmz2⟩ := info_parts Tryd.infoM
  have Mi := Lib.hid hmi; clear hmi
  have Mz0 := Lib.hid hmz0; clear hmz0
  have Mz1 := Lib.hid hmz1; clear hmz1
  have Mz2 := Lib.hid hmz2; clear hmz2
  have hr := rdAt_not (nl := 4) (nd := 6) 33 (s.drop (k + 1)) []
  rw [if_pos rfl, ← hd] at hr
  have Hr := Lib.hid hr; clear hr
  have h1 : (k : Int) < (s.length : Int) := by omega
  have h0 : ¬ (k : Int) < 0 := by omega
  have h2 : ¬ (s.length : Int) ≤ (k : Int) := by omega
  have hw : IntKind.i64.wrap ((k : Int) + 1) = ((k + 1 : Nat) : Int) := by rw [IntWalk.i64_in _ (by omega)]; omega
  have H2 := Lib.hid (h2c w)
  clear h2c
  go_enter Tryd.func52, Tryd.ntmps52
  go_wp2_with fail
  refine H2.out.mono ?_
  rintro e w1 ⟨hb1, g, cap, t, n, rfl, hown, hres⟩
  have htl : t.length ≤ 60 := by rcases hres with ⟨j, rfl, h1, h2, h3, _⟩ | ⟨rfl, h3, _⟩ <;> omega
  have Hres := Lib.hid hres
  have Hb1 := Lib.hid hb1
  have Hown := Lib.hid hown
  have hs1 := hb1.size
  clear hb1 hown hres
  go_wp2_with (first
    | (at_builtin; refine wpList_append_own _ rfl (.tmp 71) (.tmp 72) 23 rfl w1.heap.size TM im (.agg #[.int .i64 0, .int .i64 0]) 2 16 Tryd.underlying23 Mi.out Mz0.out Mz1.out Mz2.out rfl (by decide) (.slice (some ⟨w1.heap.size, 0, none⟩) 0 0) 0 [] rfl (World.ownsRow_made w1 #[] 0 (Nat.le_refl _) (by unfold maxLen; omega) rfl) ⟨g, 0, none⟩ t.length cap (mcells t) rfl (mcells_length _) ((Hown.out.alloc _).cells (g := g) rfl) (mcells_one _) (by unfold maxLen; omega) (by omega) (by simp) ?_; intro v1 w5 hown1 hgr1 _; simp only [Nat.zero_add, List.nil_append] at hown1; have hsz5 : w1.heap.size ≤ w5.heap.size := Nat.le_trans (by simp) hgr1.size; have Hgr1 := Lib.hid hgr1; clear hgr1)
    | (at_builtin; refine wpList_append_own _ rfl (.tmp 73) (.tmp 75) 23 rfl w1.heap.size TM im (.agg #[.int .i64 0, .int .i64 0]) 2 16 Tryd.underlying23 Mi.out Mz0.out Mz1.out Mz2.out rfl (by decide) v1 t.length (mcells t) rfl (hown1.alloc _) ⟨w5.heap.size, 0, none⟩ 1 1 (mcells [(2, 0)]) rfl rfl (news2 _ _ rfl _ _ _) (mcells_one _) (by unfold maxLen; omega) (by omega) (by simp; omega) ?_; intro v2 w6 hown2 hgr2 _
       have hG6 : w1.grownBy w6 none := grown2 Hgr1.out hgr2 (fun k hk => by simp [Value.ownBlock] at hk; omega) (fun k hk => (hown1.lt k hk).1)
       have Hb6 := Lib.hid (Hb1.out.trans ((below_none hG6).mono hs1))
       obtain ⟨g2, cap2, rfl⟩ := ownsRow_form hown2 (by omega)
       have Hown2 : Hid (w6.ownsRow w.heap.size TM 2 (.slice (some ⟨g2, 0, none⟩) (t ++ [(2, (0 : Int))]).length cap2) (t ++ [(2, (0 : Int))]).length (mcells (t ++ [(2, 0)]))) := by
         unfold Hid
         rw [mcells_append, List.length_append]
         exact own_mono hown2 hs1
       clear hG6 hown2 hgr2 hown1)
    | fail)
  go_ret2
  refine ⟨Hb6.out, g2, cap2, t ++ [(2, 0)], n, by rw [List.length_append]; rfl, Hown2.out, ?_⟩
  rcases Hres.out with ⟨j, rfl, hj1, hj2, hj3, hrd⟩ | ⟨rfl, hj3, hrd⟩
  · exact .inl ⟨j, rfl, by omega, hj2, by simp; omega, by rw [Hr.out, hrd]⟩
  · exact .inr ⟨rfl, by simp; omega, by rw [Hr.out, hrd]⟩
end Go.Proofs.YtmcdfbjmbelklaaDoor

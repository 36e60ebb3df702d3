/- A reader of texts of terms, in Lean: step by step as the code's readers go. It reads a term's own text back. -/
import Derived.Test.YtmcdfbjmbelklaaDoorText
namespace Go.Proofs.YtmcdfbjmbelklaaDoor
open Go.RowKit

/-- Modes: 1 what nothing parts · 2 with signs of exclamation · 3, 4, 5 parts with the sign of a kind between them · 13, 14, 15 behind such a part. nl letters and nd digits are known. 'none': refused (or no fuel). -/
def rd (nl nd : Nat) : Nat → Nat → List UInt8 → List (Int × Int) → Option (List UInt8 × List (Int × Int))
  | 0, _, _, _ => none
  | f + 1, mode, s, m =>
    if mode = 1 then
      match s with
      | [] => none
      | c :: r =>
        if c = 40 then
          match rd nl nd f 5 r m with
          | some (d :: r', m') => if d = 41 then some (r', m') else none
          | _ => none
        else if 97 ≤ c.toNat ∧ c.toNat < 97 + nl then some (r, m ++ [(0, (c.toNat : Int) - 97)])
        else if 48 ≤ c.toNat ∧ c.toNat < 48 + nd then some (r, m ++ [(1, (c.toNat : Int) - 48)])
        else none
    else if mode = 2 then
      match s with
      | [] => rd nl nd f 1 [] m
      | c :: r =>
        if c = 33 then
          match rd nl nd f 2 r m with
          | some (r', m') => some (r', m' ++ [(2, 0)])
          | none => none
        else rd nl nd f 1 (c :: r) m
    else if mode ≤ 5 then
      match rd nl nd f (mode - 1) s m with
      | some (s1, m1) => rd nl nd f (mode + 10) s1 m1
      | none => none
    else
      match s with
      | [] => some ([], m)
      | c :: r =>
        if c = sign ((mode : Int) - 10) then
          match rd nl nd f (mode - 11) r m with
          | some (r', m') => rd nl nd f mode r' (m' ++ [((mode : Int) - 10, 0)])
          | none => none
        else some (c :: r, m)

/-- with fuel enough the reader answers x -/
def Ev (nl nd : Nat) (mode : Nat) (s : List UInt8) (m : List (Int × Int)) (x : List UInt8 × List (Int × Int)) : Prop :=
  ∃ f0, ∀ f, f0 ≤ f → rd nl nd f mode s m = some x
section
variable {nl nd : Nat}
theorem Ev.held {r r' : List UInt8} {m m' : List (Int × Int)} (h : Ev nl nd 5 r m (41 :: r', m')) : Ev nl nd 1 (40 :: r) m (r', m') := by
  obtain ⟨f0, h⟩ := h
  refine ⟨f0 + 1, fun f hf => ?_⟩
  obtain ⟨g, rfl⟩ : ∃ g, f = g + 1 := ⟨f - 1, by omega⟩
  rw [rd]
  simp [h g (by omega)]
theorem Ev.letter {c : UInt8} {r : List UInt8} {m : List (Int × Int)} (h0 : c ≠ 40) (h : 97 ≤ c.toNat ∧ c.toNat < 97 + nl) : Ev nl nd 1 (c :: r) m (r, m ++ [(0, (c.toNat : Int) - 97)]) := by
  refine ⟨1, fun f hf => ?_⟩
  obtain ⟨g, rfl⟩ : ∃ g, f = g + 1 := ⟨f - 1, by omega⟩
  rw [rd]
  simp [h0, h]
theorem Ev.digit {c : UInt8} {r : List UInt8} {m : List (Int × Int)} (h0 : c ≠ 40) (h1 : ¬ 97 ≤ c.toNat) (h : 48 ≤ c.toNat ∧ c.toNat < 48 + nd) : Ev nl nd 1 (c :: r) m (r, m ++ [(1, (c.toNat : Int) - 48)]) := by
  refine ⟨1, fun f hf => ?_⟩
  obtain ⟨g, rfl⟩ : ∃ g, f = g + 1 := ⟨f - 1, by omega⟩
  rw [rd]
  simp [h0, h1, h]
theorem Ev.not {r r' : List UInt8} {m m' : List (Int × Int)} (h : Ev nl nd 2 r m (r', m')) : Ev nl nd 2 (33 :: r) m (r', m' ++ [(2, 0)]) := by
  obtain ⟨f0, h⟩ := h
  refine ⟨f0 + 1, fun f hf => ?_⟩
  obtain ⟨g, rfl⟩ : ∃ g, f = g + 1 := ⟨f - 1, by omega⟩
  rw [rd]
  simp [h g (by omega)]
theorem Ev.skip {c : UInt8} {r : List UInt8} {m : List (Int × Int)} {x} (hc : c ≠ 33) (h : Ev nl nd 1 (c :: r) m x) : Ev nl nd 2 (c :: r) m x := by
  obtain ⟨f0, h⟩ := h
  refine ⟨f0 + 1, fun f hf => ?_⟩
  obtain ⟨g, rfl⟩ : ∃ g, f = g + 1 := ⟨f - 1, by omega⟩
  rw [rd]
  simp [h g (by omega), hc]
theorem Ev.level {k : Nat} {s s1 : List UInt8} {m m1 : List (Int × Int)} {x} (hk : 3 ≤ k ∧ k ≤ 5) (h : Ev nl nd (k - 1) s m (s1, m1)) (h1 : Ev nl nd (k + 10) s1 m1 x) : Ev nl nd k s m x := by
  obtain ⟨f0, h⟩ := h
  obtain ⟨f1, h1⟩ := h1
  refine ⟨f0 + f1 + 1, fun f hf => ?_⟩
  obtain ⟨g, rfl⟩ : ∃ g, f = g + 1 := ⟨f - 1, by omega⟩
  have e : rd nl nd (g + 1) k s m = (match rd nl nd g (k - 1) s m with | some (s1, m1) => rd nl nd g (k + 10) s1 m1 | none => none) := by
    cases s <;> rw [rd, if_neg (by omega), if_neg (by omega), if_pos hk.2]
  rw [e, h g (by omega)]
  exact h1 g (by omega)
theorem Ev.stop {k : Nat} {s : List UInt8} {m : List (Int × Int)} (hk : 3 ≤ k ∧ k ≤ 5) (hs : s.head? ≠ some (sign k)) : Ev nl nd (k + 10) s m (s, m) := by
  refine ⟨1, fun f hf => ?_⟩
  obtain ⟨g, rfl⟩ : ∃ g, f = g + 1 := ⟨f - 1, by omega⟩
  cases s with
  | nil => rw [rd, if_neg (by omega), if_neg (by omega), if_neg (by omega)]
  | cons c r =>
    rw [rd, if_neg (by omega), if_neg (by omega), if_neg (by omega)]
    have hc : ¬ c = sign (((k + 10 : Nat) : Int) - 10) := by
      rw [show ((k + 10 : Nat) : Int) - 10 = (k : Int) by omega]
      intro e; subst e; exact hs rfl
    rw [if_neg hc]
theorem Ev.go {k : Nat} {r r' : List UInt8} {m m' : List (Int × Int)} {x} (hk : 3 ≤ k ∧ k ≤ 5) (h : Ev nl nd (k - 1) r m (r', m')) (h1 : Ev nl nd (k + 10) r' (m' ++ [((k : Int), 0)]) x) : Ev nl nd (k + 10) (sign k :: r) m x := by
  obtain ⟨f0, h⟩ := h
  obtain ⟨f1, h1⟩ := h1
  refine ⟨f0 + f1 + 1, fun f hf => ?_⟩
  obtain ⟨g, rfl⟩ : ∃ g, f = g + 1 := ⟨f - 1, by omega⟩
  have e : ((k + 10 : Nat) : Int) - 10 = (k : Int) := by omega
  have h' := h g (by omega)
  have h1' := h1 g (by omega)
  rw [rd, if_neg (by omega), if_neg (by omega), if_neg (by omega)]
  rw [e, if_pos rfl, show k + 10 - 11 = k - 1 by omega, h']
  exact h1'
/-- no sign of a kind up to k stands ahead -/
def calm (k : Nat) (s : List UInt8) : Prop := ∀ j : Nat, 3 ≤ j → j ≤ k → s.head? ≠ some (sign j)
theorem calm.mono {k j : Nat} {s : List UInt8} (h : calm k s) (hj : j ≤ k) : calm j s := fun i h3 hi => h i h3 (by omega)
theorem calm_close (k : Nat) (hk : k ≤ 5) (r : List UInt8) : calm k (41 :: r) := fun j h3 hj => by
  have : j = 3 ∨ j = 4 ∨ j = 5 := by omega
  rcases this with rfl | rfl | rfl <;> simp [sign]
theorem calm_sign {k j : Nat} (hk : 3 ≤ k ∧ k ≤ 5) (hj : j < k) (r : List UInt8) : calm j (sign k :: r) := fun i h3 hi => by
  have h1 : k = 3 ∨ k = 4 ∨ k = 5 := by omega
  have h2 : i = 3 ∨ i = 4 ∨ i = 5 := by omega
  rcases h1 with rfl | rfl | rfl <;> rcases h2 with rfl | rfl | rfl <;> first | omega | simp [sign]
/-- up: what is read at level j is read at every level above, if no sign stands behind it -/
theorem Ev.up {j k : Nat} {s r : List UInt8} {m m' : List (Int × Int)} (hj : 2 ≤ j) (hk : k ≤ 5) (hr : calm k r) (h : Ev nl nd j s m (r, m')) : ∀ i, j ≤ i → i ≤ k → Ev nl nd i s m (r, m') := by
  intro i
  induction i with
  | zero => intro h0 _; omega
  | succ i ih =>
    intro h1 h2
    by_cases e : j = i + 1
    · subst e; exact h
    · exact Ev.level (by omega) (ih (by omega) (by omega)) (Ev.stop (by omega) (hr (i + 1) (by omega) h2))
def TextB (nl nd : Nat) (t : Tm) : Prop := ∀ (k : Nat), 2 ≤ k → k ≤ 5 → t.last ≤ k → ∀ (r : List UInt8) (m : List (Int × Int)), calm k r → Ev nl nd k (txt t ++ r) m (r, m ++ t.post)
def TextL (nl nd : Nat) (t : Tm) : Prop := ∀ (k : Nat), 3 ≤ k → k ≤ 5 → t.last ≤ k → ∀ (r : List UInt8) (m : List (Int × Int)) (x : List UInt8 × List (Int × Int)), calm (k - 1) r → Ev nl nd (k + 10) r (m ++ t.post) x → Ev nl nd k (txt t ++ r) m x
theorem TextB.more {t : Tm} (h : TextB nl nd t) {k : Nat} (h3 : 3 ≤ k) (h5 : k ≤ 5) (hl : t.last ≤ (k : Int) - 1) {r : List UInt8} {m : List (Int × Int)} {x : List UInt8 × List (Int × Int)} (hc : calm (k - 1) r) (hx : Ev nl nd (k + 10) r (m ++ t.post) x) : Ev nl nd k (txt t ++ r) m x :=
  Ev.level ⟨h3, h5⟩ (h (k - 1) (by omega) (by omega) (by omega) r m hc) hx
theorem TextB.held {t : Tm} (h : TextB nl nd t) (h5 : t.last ≤ 5) (r : List UInt8) (m : List (Int × Int)) : Ev nl nd 2 (40 :: (txt t ++ [41]) ++ r) m (r, m ++ t.post) := by
  rw [List.cons_append, List.append_assoc]
  exact Ev.skip (by decide) (Ev.held (h 5 (by omega) (by omega) h5 (41 :: r) m (calm_close 5 (by omega) r)))
theorem TextB.piece {t : Tm} (h : TextB nl nd t) (h5 : t.last ≤ 5) {k : Nat} (h2 : 2 ≤ k) (hk : k ≤ 5) {r : List UInt8} {m : List (Int × Int)} (hc : calm k r) : Ev nl nd k (within (txt t) t.last k ++ r) m (r, m ++ t.post) := by
  unfold within
  split
  · exact Ev.up (Nat.le_refl 2) hk hc (h.held h5 r m) k h2 (Nat.le_refl _)
  · exact h k h2 hk (by omega) r m hc
theorem TextL.piece {t : Tm} (h : TextB nl nd t) (hL : TextL nl nd t) (h5 : t.last ≤ 5) {k : Nat} (h3 : 3 ≤ k) (hk : k ≤ 5) {r : List UInt8} {m : List (Int × Int)} {x : List UInt8 × List (Int × Int)} (hc : calm (k - 1) r) (hx : Ev nl nd (k + 10) r (m ++ t.post) x) : Ev nl nd k (within (txt t) t.last k ++ r) m x := by
  unfold within
  split
  · exact Ev.level ⟨h3, hk⟩ (Ev.up (Nat.le_refl 2) (by omega) hc (h.held h5 r m) (k - 1) (by omega) (Nat.le_refl _)) hx
  · exact hL k h3 hk (by omega) r m x hc hx
theorem tm_last {p : Int} : ∀ {t : Tm}, t.ok p → t.last ≤ 5
  | .leaf k x, h => by simp only [Tm.ok] at h; simp only [Tm.last]; omega
  | .un t, _ => by simp [Tm.last]
  | .bin k a b, h => by simp only [Tm.ok] at h; simp only [Tm.last]; omega
/-- a term's own text is read back: behind the text no sign of a kind up to k stands -/
theorem Ev.text {p : Int} (hp : p ≤ 4) (hnl : 4 ≤ nl) (hnd : 6 ≤ nd) : ∀ t : Tm, t.ok p → TextB nl nd t ∧ TextL nl nd t
  | .leaf c x, h => by
    have hB : TextB nl nd (.leaf c x) := by
      intro k h2 h5 _ r m hc
      simp only [Tm.ok] at h
      refine Ev.up (j := 2) (Nat.le_refl 2) h5 hc ?_ k h2 (Nat.le_refl _)
      rcases h with ⟨rfl, h0, h1⟩ | ⟨rfl, h0, h1⟩
      · have hx : x = 0 ∨ x = 1 ∨ x = 2 ∨ x = 3 := by omega
        rcases hx with rfl | rfl | rfl | rfl <;> exact Ev.skip (by decide) (Ev.letter (by decide) ⟨by decide, Nat.lt_of_lt_of_le (by decide) (Nat.add_le_add_left hnl 97)⟩)
      · have hx : x = 0 ∨ x = 1 ∨ x = 2 ∨ x = 3 ∨ x = 4 ∨ x = 5 := by omega
        rcases hx with rfl | rfl | rfl | rfl | rfl | rfl <;> exact Ev.skip (by decide) (Ev.digit (by decide) (by decide) ⟨by decide, Nat.lt_of_lt_of_le (by decide) (Nat.add_le_add_left hnd 48)⟩)
    refine ⟨hB, fun k h3 h5 _ r m x' hc hx => hB.more h3 h5 ?_ hc hx⟩
    simp only [Tm.ok] at h
    simp only [Tm.last]
    omega
  | .un t, h => by
    have ht : t.ok p := by simpa only [Tm.ok] using h
    obtain ⟨ihB, _⟩ := Ev.text hp hnl hnd t ht
    have hB : TextB nl nd (.un t) := by
      intro k h2 h5 _ r m hc
      refine Ev.up (j := 2) (Nat.le_refl 2) h5 hc ?_ k h2 (Nat.le_refl _)
      rw [txt, Tm.post, ← List.append_assoc]
      exact Ev.not (ihB.piece (tm_last ht) (Nat.le_refl 2) (by omega) (hc.mono h2))
    exact ⟨hB, fun k h3 h5 _ r m x' hc hx => hB.more h3 h5 (by simp only [Tm.last]; omega) hc hx⟩
  | .bin c a b, h => by
    simp only [Tm.ok] at h
    obtain ⟨h3, h5, ha, hb⟩ := h
    obtain ⟨aB, aL⟩ := Ev.text hp hnl hnd a ha
    obtain ⟨bB, _⟩ := Ev.text hp hnl hnd b hb
    obtain ⟨n, rfl⟩ := Int.eq_ofNat_of_zero_le (show 0 ≤ c by omega)
    have hL : ∀ (r : List UInt8) (m : List (Int × Int)) (x : List UInt8 × List (Int × Int)), calm (n - 1) r → Ev nl nd (n + 10) r (m ++ (Tm.bin n a b).post) x → Ev nl nd n (txt (.bin n a b) ++ r) m x := by
      intro r m x hc hx
      rw [txt, List.append_assoc, List.cons_append]
      refine TextL.piece aB aL (tm_last ha) (by omega) (by omega) (calm_sign (by omega) (by omega) _) ?_
      refine Ev.go (by omega) (r' := r) (m' := m ++ a.post ++ b.post) ?_ (by simpa [Tm.post] using hx)
      have := bB.piece (tm_last hb) (k := n - 1) (by omega) (by omega) (r := r) (m := m ++ a.post) hc
      rw [show ((n - 1 : Nat) : Int) = (n : Int) - 1 by omega] at this
      exact this
    have hB : TextB nl nd (.bin n a b) := by
      intro k h2 hk hl r m hc
      simp only [Tm.last] at hl
      exact Ev.up (j := n) (by omega) hk hc (hL r m _ (hc.mono (by omega)) (Ev.stop (by omega) (hc n (by omega) (by omega)))) k (by omega) (Nat.le_refl _)
    refine ⟨hB, fun k h3' h5' hl r m x hc hx => ?_⟩
    simp only [Tm.last] at hl
    by_cases e : (n : Int) = k
    · have e' : n = k := by omega
      subst e'
      exact hL r m x hc hx
    · exact hB.more h3' h5' (by simp only [Tm.last]; omega) hc hx
/-- the whole text -/
theorem Ev.whole {p : Int} (hp : p ≤ 4) (hnl : 4 ≤ nl) (hnd : 6 ≤ nd) {t : Tm} (ht : t.ok p) : Ev nl nd 5 (txt t) [] ([], t.post) := by
  have h := (Ev.text hp hnl hnd t ht).1 5 (by omega) (by omega) (tm_last ht) [] [] (fun j _ _ => by simp)
  simpa using h

/-! ### the reader's rules as equations; what it hands back; how much fuel is enough -/
theorem rd_held_nil (f : Nat) (m : List (Int × Int)) : rd nl nd (f + 1) 1 [] m = none := by rw [rd, if_pos rfl]
theorem rd_held (f : Nat) (c : UInt8) (r : List UInt8) (m : List (Int × Int)) : rd nl nd (f + 1) 1 (c :: r) m =
    (if c = 40 then (match rd nl nd f 5 r m with | some (d :: r', m') => if d = 41 then some (r', m') else none | _ => none)
     else if 97 ≤ c.toNat ∧ c.toNat < 97 + nl then some (r, m ++ [(0, (c.toNat : Int) - 97)])
     else if 48 ≤ c.toNat ∧ c.toNat < 48 + nd then some (r, m ++ [(1, (c.toNat : Int) - 48)]) else none) := by rw [rd, if_pos rfl]
theorem rd_not_nil (f : Nat) (m : List (Int × Int)) : rd nl nd (f + 1) 2 [] m = rd nl nd f 1 [] m := by rw [rd, if_neg (by decide), if_pos rfl]
theorem rd_not (f : Nat) (c : UInt8) (r : List UInt8) (m : List (Int × Int)) : rd nl nd (f + 1) 2 (c :: r) m =
    (if c = 33 then (match rd nl nd f 2 r m with | some (r', m') => some (r', m' ++ [(2, 0)]) | none => none) else rd nl nd f 1 (c :: r) m) := by rw [rd, if_neg (by decide), if_pos rfl]
theorem rd_level {k : Nat} (hk : 3 ≤ k ∧ k ≤ 5) (f : Nat) (s : List UInt8) (m : List (Int × Int)) : rd nl nd (f + 1) k s m =
    (match rd nl nd f (k - 1) s m with | some (s1, m1) => rd nl nd f (k + 10) s1 m1 | none => none) := by
  cases s <;> rw [rd, if_neg (by omega), if_neg (by omega), if_pos hk.2]
theorem rd_loop_nil {k : Nat} (hk : 3 ≤ k ∧ k ≤ 5) (f : Nat) (m : List (Int × Int)) : rd nl nd (f + 1) (k + 10) [] m = some ([], m) := by
  rw [rd, if_neg (by omega), if_neg (by omega), if_neg (by omega)]
theorem rd_loop {k : Nat} (hk : 3 ≤ k ∧ k ≤ 5) (f : Nat) (c : UInt8) (r : List UInt8) (m : List (Int × Int)) : rd nl nd (f + 1) (k + 10) (c :: r) m =
    (if c = sign k then (match rd nl nd f (k - 1) r m with | some (r', m') => rd nl nd f (k + 10) r' (m' ++ [((k : Int), 0)]) | none => none) else some (c :: r, m)) := by
  rw [rd, if_neg (by omega), if_neg (by omega), if_neg (by omega), show ((k + 10 : Nat) : Int) - 10 = (k : Int) by omega, show k + 10 - 11 = k - 1 by omega]
theorem I64_byte {x : Int} (h0 : -1000 ≤ x) (h1 : x ≤ 1000) : I64 x := by unfold I64; omega
/-- the modes that are met -/
def Mode (mode : Nat) : Prop := mode = 1 ∨ mode = 2 ∨ (3 ≤ mode ∧ mode ≤ 5) ∨ ∃ k, 3 ≤ k ∧ k ≤ 5 ∧ mode = k + 10
def Kept (s s' : List UInt8) (m m' : List (Int × Int)) : Prop := m'.length + s'.length ≤ m.length + s.length ∧ ∃ e, m' = m ++ e ∧ I64s e
theorem Kept.one {c : UInt8} {r : List UInt8} {m : List (Int × Int)} {a b : Int} (ha : I64 a) (hb : I64 b) : Kept (c :: r) r m (m ++ [(a, b)]) :=
  ⟨by simp; omega, [(a, b)], rfl, fun x hx => by simp at hx; subst hx; exact ⟨ha, hb⟩⟩
theorem Kept.trans {s s1 s2 : List UInt8} {m m1 m2 : List (Int × Int)} (h : Kept s s1 m m1) (k : Kept s1 s2 m1 m2) : Kept s s2 m m2 := by
  obtain ⟨h1, e1, rfl, h3⟩ := h
  obtain ⟨k1, e2, rfl, k3⟩ := k
  exact ⟨by omega, e1 ++ e2, by simp, fun x hx => by rcases List.mem_append.1 hx with hx | hx; exact h3 x hx; exact k3 x hx⟩
theorem Kept.refl (s : List UInt8) (m : List (Int × Int)) : Kept s s m m := ⟨Nat.le_refl _, [], by simp, fun x hx => by simp at hx⟩
theorem Kept.drop (c : UInt8) (s : List UInt8) (m : List (Int × Int)) : Kept (c :: s) s m m := ⟨by simp, [], by simp, fun x hx => by simp at hx⟩
theorem rd_shape : ∀ (f mode : Nat) (s : List UInt8) (m : List (Int × Int)) (s' : List UInt8) (m' : List (Int × Int)), Mode mode → rd nl nd f mode s m = some (s', m') →
    s'.length ≤ s.length ∧ (mode ≤ 5 → s'.length < s.length) ∧ Kept s s' m m'
  | 0, _, s, _, _, _, _, h => by rw [rd] at h; cases h
  | f + 1, mode, s, m, s', m', hm, h => by
    rcases hm with rfl | rfl | hk | ⟨k, hk3, hk5, rfl⟩
    · cases s with
      | nil => rw [rd_held_nil] at h; cases h
      | cons c r =>
        rw [rd_held] at h
        have hc := c.toNat_lt
        split at h
        · split at h
          · rename_i d r' m1 h1
            obtain ⟨a1, a2, a3⟩ := rd_shape f 5 _ _ _ _ (.inr (.inr (.inl ⟨by omega, by omega⟩))) h1
            split at h
            · cases h
              simp only [List.length_cons] at a1 a2 ⊢
              exact ⟨by omega, fun _ => by omega, (Kept.drop c r m).trans (a3.trans (Kept.drop d _ _))⟩
            · cases h
          · cases h
        · split at h
          · cases h
            exact ⟨by simp, fun _ => by simp, Kept.one (I64_byte (by omega) (by omega)) (I64_byte (by omega) (by omega))⟩
          · split at h
            · cases h
              exact ⟨by simp, fun _ => by simp, Kept.one (I64_byte (by omega) (by omega)) (I64_byte (by omega) (by omega))⟩
            · cases h
    · cases s with
      | nil =>
        rw [rd_not_nil] at h
        obtain ⟨a1, a2, a3⟩ := rd_shape f 1 _ _ _ _ (.inl rfl) h
        exact ⟨a1, fun _ => a2 (by omega), a3⟩
      | cons c r =>
        rw [rd_not] at h
        split at h
        · split at h
          · rename_i r' m1 h1
            cases h
            obtain ⟨a1, a2, a3⟩ := rd_shape f 2 _ _ _ _ (.inr (.inl rfl)) h1
            have a2' := a2 (by omega)
            obtain ⟨b1, e, rfl, b3⟩ := a3
            simp only [List.length_append, List.length_cons] at b1 ⊢
            refine ⟨by omega, fun _ => by omega, by simp only [List.length_append, List.length_cons]; simp; omega, e ++ [(2, 0)], by simp, fun x hx => ?_⟩
            rcases List.mem_append.1 hx with hx | hx
            · exact b3 x hx
            · simp at hx; subst hx; exact ⟨I64_byte (by omega) (by omega), I64_byte (by omega) (by omega)⟩
          · cases h
        · obtain ⟨a1, a2, a3⟩ := rd_shape f 1 _ _ _ _ (.inl rfl) h
          exact ⟨a1, fun _ => a2 (by omega), a3⟩
    · rw [rd_level hk] at h
      split at h
      · rename_i s1 m1 h1
        obtain ⟨a1, a2, a3⟩ := rd_shape f (mode - 1) _ _ _ _ (by unfold Mode; omega) h1
        obtain ⟨b1, _, b3⟩ := rd_shape f (mode + 10) _ _ _ _ (.inr (.inr (.inr ⟨mode, hk.1, hk.2, rfl⟩))) h
        have a2' := a2 (by omega)
        exact ⟨by omega, fun _ => by omega, a3.trans b3⟩
      · cases h
    · cases s with
      | nil =>
        rw [rd_loop_nil ⟨hk3, hk5⟩] at h
        cases h
        exact ⟨Nat.le_refl _, fun _ => by omega, Kept.refl _ _⟩
      | cons c r =>
        rw [rd_loop ⟨hk3, hk5⟩] at h
        split at h
        · split at h
          · rename_i r' m1 h1
            obtain ⟨a1, a2, a3⟩ := rd_shape f (k - 1) _ _ _ _ (by unfold Mode; omega) h1
            obtain ⟨b1, _, b3⟩ := rd_shape f (k + 10) _ _ _ _ (.inr (.inr (.inr ⟨k, hk3, hk5, rfl⟩))) h
            obtain ⟨c1, e, rfl, c3⟩ := a3
            obtain ⟨d1, e2, rfl, d3⟩ := b3
            simp only [List.length_append, List.length_cons, List.length_nil] at c1 d1 ⊢
            refine ⟨by omega, fun _ => by omega, by simp only [List.length_append, List.length_cons, List.length_nil]; omega, e ++ [((k : Int), 0)] ++ e2, by simp, fun x hx => ?_⟩
            rcases List.mem_append.1 hx with hx | hx
            · rcases List.mem_append.1 hx with hx | hx
              · exact c3 x hx
              · simp at hx; subst hx; exact ⟨I64_byte (by omega) (by omega), I64_byte (by omega) (by omega)⟩
            · exact d3 x hx
          · cases h
        · cases h
          exact ⟨Nat.le_refl _, fun _ => by omega, Kept.refl _ _⟩
def cost (mode : Nat) : Nat := if mode ≤ 5 then mode else 1
theorem rd_enough : ∀ (f mode : Nat) (s : List UInt8) (m : List (Int × Int)), Mode mode → 20 * s.length + cost mode < f → rd nl nd (f + 1) mode s m = rd nl nd f mode s m
  | 0, _, _, _, _, h => by omega
  | f + 1, mode, s, m, hm, h => by
    rcases hm with rfl | rfl | hk | ⟨k, hk3, hk5, rfl⟩
    · cases s with
      | nil => rw [rd_held_nil, rd_held_nil]
      | cons c r =>
        have h' : 20 * r.length + cost 5 < f := by unfold cost at *; simp at h ⊢; omega
        rw [rd_held, rd_held, rd_enough f 5 r m (.inr (.inr (.inl ⟨by omega, by omega⟩))) h']
    · cases s with
      | nil =>
        have h' : 20 * ([] : List UInt8).length + cost 1 < f := by unfold cost at *; simp at h ⊢; omega
        rw [rd_not_nil, rd_not_nil, rd_enough f 1 [] m (.inl rfl) h']
      | cons c r =>
        have h1 : 20 * r.length + cost 2 < f := by unfold cost at *; simp at h ⊢; omega
        have h2 : 20 * (c :: r).length + cost 1 < f := by unfold cost at *; simp at h ⊢; omega
        rw [rd_not, rd_not, rd_enough f 2 r m (.inr (.inl rfl)) h1, rd_enough f 1 (c :: r) m (.inl rfl) h2]
    · have h1 : 20 * s.length + cost (mode - 1) < f := by unfold cost at *; rw [if_pos (by omega)] at h ⊢; omega
      rw [rd_level hk, rd_level hk, rd_enough f (mode - 1) s m (by unfold Mode; omega) h1]
      cases hx : rd nl nd f (mode - 1) s m with
      | none => rfl
      | some y =>
        obtain ⟨s1, m1⟩ := y
        obtain ⟨a1, a2, _⟩ := rd_shape f (mode - 1) s m s1 m1 (by unfold Mode; omega) hx
        have a2' := a2 (by omega)
        have h2 : 20 * s1.length + cost (mode + 10) < f := by unfold cost at *; rw [if_pos (by omega)] at h; rw [if_neg (by omega)]; omega
        exact rd_enough f (mode + 10) s1 m1 (.inr (.inr (.inr ⟨mode, hk.1, hk.2, rfl⟩))) h2
    · cases s with
      | nil => rw [rd_loop_nil ⟨hk3, hk5⟩, rd_loop_nil ⟨hk3, hk5⟩]
      | cons c r =>
        have h1 : 20 * r.length + cost (k - 1) < f := by unfold cost at *; simp at h; rw [if_pos (by omega)]; omega
        rw [rd_loop ⟨hk3, hk5⟩, rd_loop ⟨hk3, hk5⟩, rd_enough f (k - 1) r m (by unfold Mode; omega) h1]
        cases hx : rd nl nd f (k - 1) r m with
        | none => rfl
        | some y =>
          obtain ⟨s1, m1⟩ := y
          obtain ⟨a1, a2, _⟩ := rd_shape f (k - 1) r m s1 m1 (by unfold Mode; omega) hx
          have a2' := a2 (by omega)
          have h2 : 20 * s1.length + cost (k + 10) < f := by unfold cost at *; simp at h; rw [if_neg (by omega)]; omega
          dsimp only
          rw [rd_enough f (k + 10) s1 (m1 ++ [((k : Int), 0)]) (.inr (.inr (.inr ⟨k, hk3, hk5, rfl⟩))) h2]
theorem rd_any {mode : Nat} {s : List UInt8} {m : List (Int × Int)} (hm : Mode mode) {f : Nat} (h : 20 * s.length + cost mode < f) : ∀ g, f ≤ g → rd nl nd g mode s m = rd nl nd f mode s m := by
  intro g
  induction g with
  | zero => intro hg; rw [show f = 0 by omega]
  | succ g ih =>
    intro hg
    by_cases e : f = g + 1
    · rw [e]
    · rw [rd_enough g mode s m hm (by omega), ih (by omega)]
/-- what a reader makes of a text, from a level -/
def rdAt (nl nd mode : Nat) (s : List UInt8) (m : List (Int × Int)) : Option (List UInt8 × List (Int × Int)) := rd nl nd (20 * s.length + 20) mode s m
theorem rdAt_of {mode : Nat} {s : List UInt8} {m : List (Int × Int)} (hm : Mode mode) {f : Nat} (h : 20 * s.length + cost mode < f) : rd nl nd f mode s m = rdAt nl nd mode s m := by
  have hc : cost mode < 20 := by unfold cost; split <;> omega
  unfold rdAt
  rw [← rd_any hm h (f + (20 * s.length + 20)) (by omega), ← rd_any hm (show 20 * s.length + cost mode < 20 * s.length + 20 by omega) (f + (20 * s.length + 20)) (by omega)]
theorem rdAt_whole {p : Int} (hp : p ≤ 4) (hnl : 4 ≤ nl) (hnd : 6 ≤ nd) {t : Tm} (ht : t.ok p) : rdAt nl nd 5 (txt t) [] = some ([], t.post) := by
  obtain ⟨f0, h⟩ := Ev.whole (nl := nl) (nd := nd) hp hnl hnd ht
  rw [← rdAt_of (.inr (.inr (.inl ⟨by omega, by omega⟩))) (show 20 * (txt t).length + cost 5 < f0 + 20 * (txt t).length + 20 by unfold cost; simp; omega)]
  exact h _ (by omega)
/-! ### the rules without fuel -/
theorem rdAt_held_nil (m : List (Int × Int)) : rdAt nl nd 1 [] m = none := rd_held_nil _ m
theorem rdAt_held (c : UInt8) (r : List UInt8) (m : List (Int × Int)) : rdAt nl nd 1 (c :: r) m =
    (if c = 40 then (match rdAt nl nd 5 r m with | some (d :: r', m') => if d = 41 then some (r', m') else none | _ => none)
     else if 97 ≤ c.toNat ∧ c.toNat < 97 + nl then some (r, m ++ [(0, (c.toNat : Int) - 97)])
     else if 48 ≤ c.toNat ∧ c.toNat < 48 + nd then some (r, m ++ [(1, (c.toNat : Int) - 48)]) else none) := by
  rw [← rdAt_of (mode := 5) (f := 20 * (c :: r).length + 19) (.inr (.inr (.inl ⟨by omega, by omega⟩))) (by unfold cost; simp; omega)]
  show rd nl nd (20 * (c :: r).length + 19 + 1) 1 (c :: r) m = _
  rw [rd_held]
theorem rdAt_not_nil (m : List (Int × Int)) : rdAt nl nd 2 [] m = none := by
  show rd nl nd 20 2 [] m = none
  rw [rd_not_nil, rd_held_nil]
theorem rdAt_not (c : UInt8) (r : List UInt8) (m : List (Int × Int)) : rdAt nl nd 2 (c :: r) m =
    (if c = 33 then (match rdAt nl nd 2 r m with | some (r', m') => some (r', m' ++ [(2, 0)]) | none => none) else rdAt nl nd 1 (c :: r) m) := by
  rw [← rdAt_of (mode := 2) (s := r) (f := 20 * (c :: r).length + 19) (.inr (.inl rfl)) (by unfold cost; simp; omega), ← rdAt_of (mode := 1) (f := 20 * (c :: r).length + 19) (.inl rfl) (by unfold cost; simp)]
  show rd nl nd (20 * (c :: r).length + 19 + 1) 2 (c :: r) m = _
  rw [rd_not]
theorem rdAt_level {k : Nat} (hk : 3 ≤ k ∧ k ≤ 5) (s : List UInt8) (m : List (Int × Int)) : rdAt nl nd k s m =
    (match rdAt nl nd (k - 1) s m with | some (s1, m1) => rdAt nl nd (k + 10) s1 m1 | none => none) := by
  have hM : Mode (k - 1) := by unfold Mode; omega
  have hc : cost (k - 1) = k - 1 := by unfold cost; rw [if_pos (by omega)]
  have e : rdAt nl nd k s m = _ := rd_level (nl := nl) (nd := nd) hk (20 * s.length + 19) s m
  rw [e, rdAt_of hM (by omega)]
  cases hx : rdAt nl nd (k - 1) s m with
  | none => rfl
  | some y =>
    obtain ⟨s1, m1⟩ := y
    obtain ⟨a1, a2, _⟩ := rd_shape _ (k - 1) s m s1 m1 hM hx
    exact rdAt_of (.inr (.inr (.inr ⟨k, hk.1, hk.2, rfl⟩))) (by unfold cost; rw [if_neg (by omega)]; omega)
theorem rdAt_loop_nil {k : Nat} (hk : 3 ≤ k ∧ k ≤ 5) (m : List (Int × Int)) : rdAt nl nd (k + 10) [] m = some ([], m) := rd_loop_nil hk _ m
theorem rdAt_loop {k : Nat} (hk : 3 ≤ k ∧ k ≤ 5) (c : UInt8) (r : List UInt8) (m : List (Int × Int)) : rdAt nl nd (k + 10) (c :: r) m =
    (if c = sign k then (match rdAt nl nd (k - 1) r m with | some (r', m') => rdAt nl nd (k + 10) r' (m' ++ [((k : Int), 0)]) | none => none) else some (c :: r, m)) := by
  have hM : Mode (k - 1) := by unfold Mode; omega
  have hc : cost (k - 1) = k - 1 := by unfold cost; rw [if_pos (by omega)]
  have e : rdAt nl nd (k + 10) (c :: r) m = _ := rd_loop (nl := nl) (nd := nd) hk (20 * (c :: r).length + 19) c r m
  rw [e, rdAt_of hM (by simp only [List.length_cons]; omega)]
  cases hx : rdAt nl nd (k - 1) r m with
  | none => rfl
  | some y =>
    obtain ⟨s1, m1⟩ := y
    obtain ⟨a1, a2, _⟩ := rd_shape _ (k - 1) r m s1 m1 hM hx
    dsimp only
    rw [rdAt_of (.inr (.inr (.inr ⟨k, hk.1, hk.2, rfl⟩))) (by unfold cost; rw [if_neg (by omega)]; simp only [List.length_cons]; omega)]
theorem rdAt_shape {mode : Nat} {s s' : List UInt8} {m m' : List (Int × Int)} (hm : Mode mode) (h : rdAt nl nd mode s m = some (s', m')) : s'.length ≤ s.length ∧ (mode ≤ 5 → s'.length < s.length) ∧ Kept s s' m m' := rd_shape _ mode s m s' m' hm h
end
end Go.Proofs.YtmcdfbjmbelklaaDoor

/- What a reader of texts tells: a term exactly if the text is that term's own text. -/
import Derived.Test.YtmcdfbjmbelklaaDoorRead
import Derived.Test.YtmcdfbjmbelklaaDoorTextT
namespace Go.Proofs.YtmcdfbjmbelklaaDoor
open Go.RowKit

theorem within_short (l : List UInt8) (a k : Int) (hk : 2 ≤ k) : (within l a k).length ≤ l.length + (if 3 ≤ a then 2 else 0) := by
  unfold within
  by_cases h : k < a
  · rw [if_pos h, if_pos (by omega)]; simp
  · rw [if_neg h]; split <;> omega
theorem txt_short {p : Int} : ∀ t : Tm, t.ok p → (txt t).length + (if 3 ≤ t.last then 2 else 0) + 1 ≤ 2 * t.post.length
  | .leaf k x, h => by
    have hk : k ≤ 1 := by simp only [Tm.ok] at h; omega
    have hl : (txt (.leaf k x)).length = 1 := by rw [txt]; split <;> rfl
    have e1 : (Tm.leaf k x).last = k := rfl
    have e2 : (Tm.leaf k x).post.length = 1 := rfl
    rw [hl, e1, e2, if_neg (by omega)]
    omega
  | .un t, h => by
    have ht : t.ok p := by simpa only [Tm.ok] using h
    have ih := txt_short t ht
    have hw := within_short (txt t) t.last 2 (by omega)
    have e0 : (txt (.un t)).length = (within (txt t) t.last 2).length + 1 := by rw [txt]; rfl
    have e1 : (Tm.un t).last = 2 := rfl
    have e2 : (Tm.un t).post.length = t.post.length + 1 := by simp [Tm.post]
    rw [e0, e1, e2, if_neg (by omega)]
    omega
  | .bin k a b, h => by
    simp only [Tm.ok] at h
    obtain ⟨h3, h5, ha, hb⟩ := h
    have iha := txt_short a ha
    have ihb := txt_short b hb
    have hwa := within_short (txt a) a.last k (by omega)
    have hwb := within_short (txt b) b.last (k - 1) (by omega)
    have e0 : (txt (.bin k a b)).length = (within (txt a) a.last k).length + ((within (txt b) b.last (k - 1)).length + 1) := by rw [txt, List.length_append, List.length_cons]
    have e1 : (Tm.bin k a b).last = k := rfl
    have e2 : (Tm.bin k a b).post.length = a.post.length + (b.post.length + 1) := by simp [Tm.post]
    rw [e0, e1, e2, if_pos h3]
    omega
theorem txt_pos : ∀ t : Tm, 1 ≤ (txt t).length
  | .leaf k x => by rw [txt]; split <;> simp
  | .un t => by rw [txt]; simp
  | .bin k a b => by rw [txt]; simp; omega
/-- the reader's answer: the marks, if the text is that of a term -/
def rdV (p : Int) (s : List UInt8) : Option (List (Int × Int)) :=
  if 60 < s.length then none else
  match rdAt 26 10 5 s [] with
  | some (_, m) => if textV p m = s then some m else none
  | none => none
def rdVS (p : Int) (s : List UInt8) : Option (List (Int × Int)) :=
  if 60 < s.length then none else
  match rdAt 4 6 5 s [] with
  | some (s', m) => if s' = [] ∧ textV p m = s then some m else none
  | none => none
theorem mode5 : Mode 5 := .inr (.inr (.inl ⟨by omega, by omega⟩))
theorem textV_tm {p : Int} {m : List (Int × Int)} {s : List UInt8} (h : textV p m = s) (hs : s ≠ []) : ∃ t : Tm, termOk p t.post = true ∧ t.ok p ∧ m = t.post ∧ s = txt t := by
  by_cases hok : termOk p m = true
  · obtain ⟨_, _, t, ht, rfl⟩ := termOk_iff.1 hok
    exact ⟨t, hok, ht, rfl, by rw [← h, textV_of hok ht]⟩
  · exact absurd (by rw [← h, textV_no (by simpa using hok)]) hs
theorem tm_whole {p : Int} {t : Tm} (hok : termOk p t.post = true) (ht : t.ok p) {nl nd : Nat} (hnl : 4 ≤ nl) (hnd : 6 ≤ nd) : (txt t).length ≤ 60 ∧ rdAt nl nd 5 (txt t) [] = some ([], t.post) := by
  obtain ⟨⟨_, hp⟩, hl, _⟩ := termOk_iff.1 hok
  have h1 := txt_short t ht
  have h2 : (txt t).length ≤ 60 := by split at h1 <;> omega
  exact ⟨h2, rdAt_whole hp hnl hnd ht⟩
theorem rdV_iff {p : Int} {s : List UInt8} {m : List (Int × Int)} : rdV p s = some m ↔ ∃ t : Tm, termOk p t.post = true ∧ t.ok p ∧ m = t.post ∧ s = txt t := by
  constructor
  · intro h
    unfold rdV at h
    split at h
    · cases h
    · split at h
      · rename_i s' m' hr
        split at h
        · rename_i ht
          cases h
          have hne : s ≠ [] := by
            rintro rfl
            have := (rdAt_shape mode5 hr).2.1 (by omega)
            simp at this
          exact textV_tm ht hne
        · cases h
      · cases h
  · rintro ⟨t, hok, ht, rfl, rfl⟩
    obtain ⟨hl, hr⟩ := tm_whole hok ht (nl := 26) (nd := 10) (by omega) (by omega)
    unfold rdV
    rw [if_neg (by omega), hr]
    dsimp only
    rw [if_pos (textV_of hok ht)]
theorem rdVS_iff {p : Int} {s : List UInt8} {m : List (Int × Int)} : rdVS p s = some m ↔ ∃ t : Tm, termOk p t.post = true ∧ t.ok p ∧ m = t.post ∧ s = txt t := by
  constructor
  · intro h
    unfold rdVS at h
    split at h
    · cases h
    · split at h
      · rename_i s' m' hr
        split at h
        · rename_i ht
          cases h
          have hne : s ≠ [] := by
            rintro rfl
            have := (rdAt_shape mode5 hr).2.1 (by omega)
            simp at this
          exact textV_tm ht.2 hne
        · cases h
      · cases h
  · rintro ⟨t, hok, ht, rfl, rfl⟩
    obtain ⟨hl, hr⟩ := tm_whole hok ht (nl := 4) (nd := 6) (by omega) (by omega)
    unfold rdVS
    rw [if_neg (by omega), hr]
    dsimp only
    rw [if_pos ⟨rfl, textV_of hok ht⟩]
theorem rdVS_eq (p : Int) (s : List UInt8) : rdVS p s = rdV p s := by
  cases h : rdV p s with
  | some m => exact rdVS_iff.2 (rdV_iff.1 h)
  | none =>
    cases h2 : rdVS p s with
    | none => rfl
    | some m => rw [rdV_iff.2 (rdVS_iff.1 h2)] at h; cases h
theorem rdV_text {p : Int} {t : Tm} (hok : termOk p t.post = true) (ht : t.ok p) : rdV p (txt t) = some t.post := rdV_iff.2 ⟨t, hok, ht, rfl, rfl⟩
/-- in brackets a text is refused -/
theorem rdV_held {p : Int} {s : List UInt8} {m : List (Int × Int)} (h : rdV p s = some m) : rdV p (40 :: (s ++ [41])) = none := by
  cases h2 : rdV p (40 :: (s ++ [41])) with
  | none => rfl
  | some m2 =>
    obtain ⟨t, hok, ht, rfl, rfl⟩ := rdV_iff.1 h
    obtain ⟨t2, hok2, ht2, rfl, he⟩ := rdV_iff.1 h2
    obtain ⟨⟨_, hp⟩, _, _⟩ := termOk_iff.1 hok
    have e1 : rdAt 26 10 5 (40 :: (txt t ++ [41])) [] = some ([], t2.post) := by rw [he]; exact (tm_whole hok2 ht2 (by omega) (by omega)).2
    obtain ⟨f0, e2⟩ := Ev.up (nl := 26) (nd := 10) (k := 5) (Nat.le_refl 2) (Nat.le_refl 5) (fun j _ _ => by simp) ((Ev.text hp (by omega) (by omega) t ht).1.held (tm_last ht) [] []) 5 (by omega) (by omega)
    have e3 := e2 (f0 + 20 * (40 :: (txt t ++ [41])).length + 20) (by omega)
    rw [List.append_nil, rdAt_of mode5 (by unfold cost; simp; omega), e1] at e3
    have e4 : t2.post = t.post := by simpa using e3
    have e5 : txt t2 = txt t := by rw [← textV_of hok2 ht2, e4, textV_of hok ht]
    rw [e5] at he
    have h9 := congrArg List.length he
    simp only [List.length_cons, List.length_append, List.length_nil] at h9
    omega
theorem rdV_len {p : Int} {s : List UInt8} {m : List (Int × Int)} (h : rdV p s = some m) : s.length ≤ 60 ∧ m.length ≤ 15 := by
  obtain ⟨t, hok, ht, rfl, rfl⟩ := rdV_iff.1 h
  obtain ⟨_, hl, _⟩ := termOk_iff.1 hok
  exact ⟨(tm_whole hok ht (nl := 26) (nd := 10) (by omega) (by omega)).1, hl⟩
end Go.Proofs.YtmcdfbjmbelklaaDoor

/- Contract of the program's ReadTerm. -/
import Derived.Test.YtmcdfbjmbelklaaDoorReadK
import Derived.Test.YtmcdfbjmbelklaaDoorReadM
namespace Go.Proofs.YtmcdfbjmbelklaaDoor
open Go.RowKit Go.Joins
theorem I64s_read {nl nd : Nat} {s s' : List UInt8} {m : List (Int × Int)} (h : rdAt nl nd 5 s [] = some (s', m)) : I64s m := by
  obtain ⟨_, _, _, e, he, hi⟩ := rdAt_shape mode5 h
  rw [he]; simpa using hi
theorem len_read {nl nd : Nat} {s s' : List UInt8} {m : List (Int × Int)} (h : rdAt nl nd 5 s [] = some (s', m)) : m.length ≤ s.length := by
  have := (rdAt_shape mode5 h).2.2.1
  simp only [List.length_nil] at this
  omega
theorem RS.row {w : World} {b base : Nat} {s : List UInt8} {m : List (Int × Int)} (h : RS w b base s m) : ∃ v, w.cell? ⟨b, 1, none⟩ = some v ∧ w.frozen? ⟨b, 1, none⟩ = false ∧ w.ownsRow base TM 2 v m.length (mcells m) := by
  obtain ⟨_, _, _, hf, _, v, hv, ho⟩ := h
  exact ⟨v, hv, hf, ho⟩
/-- what ReadTerm hands back: a row of its own and true, or nothing and false -/
def ReadOut (p : Int) (s : List UInt8) (w : World) (nil : Value → Prop) (e : Ending) (w' : World) : Prop :=
  Below w.heap.size w w' ∧ ((∃ m v, rdV p s = some m ∧ e = .returned (.tuple #[v, .bool true]) ∧ w'.ownsRow w.heap.size TM 2 v m.length (mcells m) ∧ I64s m) ∨ (rdV p s = none ∧ ∃ v, nil v ∧ e = .returned (.tuple #[v, .bool false])))
set_option maxRecDepth 100000 in
set_option maxHeartbeats 1000000 in
theorem implReadTerm (p : Int) (s : List UInt8) (hs : s.length ≤ 4611686018427387904) (w : World) :
    Calls Tryd.prog 13 #[.int .i64 p, sv s] w fun e w' => ReadOut p s w (fun v => v = .slice none 0 0) e w' := by
  by_cases hlen : 60 < s.length
  · have hn : Hid (rdV p s = none) := by unfold Hid rdV; rw [if_pos hlen]
    have hl : (60 : Int) < (s.length : Int) := by omega
    clear hlen
    go_enter Tryd.func13, Tryd.ntmps13
    go_wp2
    go_ret2
    exact ⟨Below.refl _ _, .inr ⟨hn.out, .slice none 0 0, rfl, rfl⟩⟩
  have hl : ¬ (60 : Int) < (s.length : Int) := by omega
  have hrv : Hid (rdV p s = match rdAt 26 10 5 s [] with | some (_, m) => if textV p m = s then some m else none | none => none) := by unfold Hid rdV; exact if_neg hlen
  have Hs := Lib.hid (implReadSame s)
  have hl60 : s.length ≤ 60 := by omega
  clear hs hlen
  have Hl60 := Lib.hid hl60
  go_enter Tryd.func13, Tryd.ntmps13
  go_wp2_with fail
  have hrs0 : RS (w.alloc (.cells #[sv s, .slice none 0 0] 57)) w.heap.size (w.heap.size + 1) s [] :=
    ⟨by omega, by simp, by go_simp, by go_simp, by go_simp, .slice none 0 0, by go_simp, World.ownsRow_nil _ _ _ _⟩
  refine (Hs.out [] _ (w.heap.size + 1) _ hrs0 (by simp; omega) (by simp)).mono ?_
  clear hrs0
  rintro e w1 ⟨hb1', ⟨s1, m1, hr1, rfl, hrs1⟩ | ⟨hr1, rfl⟩⟩
  · have hb1 : Below w.heap.size w w1 := ((Below.refl _ _).alloc (Nat.le_refl _) _).trans hb1'
    have hz : w.heap.size + 1 ≤ w1.heap.size := by have := hb1'.size; simp at this; omega
    have hi := I64s_read hr1
    have Hi := Lib.hid hi
    obtain ⟨v, hv, hf, hown⟩ := hrs1.row
    have Hown := Lib.hid hown
    have hrd := Lib.hid (RdMarks.of_own hown hi)
    have Hrv : Hid (rdV p s = if textV p m1 = s then some m1 else none) := by unfold Hid; rw [hrv.out, hr1]
    have Htx := Lib.hid (implTermText p m1 w1.heap.size v w1 hrd.out (Nat.le_refl _))
    have hbs : w.heap.size < w1.heap.size := by omega
    clear hown hrs1 hr1 hb1' hi
    by_cases ht : textV p m1 = s
    · rw [if_pos ht] at Hrv
      rw [ht] at Htx
      clear ht
      go_wp2_with fail
      refine Htx.out.mono ?_
      rintro e w2 ⟨rfl, hb2⟩
      have Hb2 := Lib.hid (hb1.trans (hb2.mono hb1.size))
      have Hown2 := Lib.hid (own_mono (own_below Hown.out hb2) (show w.heap.size ≤ w.heap.size + 1 by omega))
      have hv2 : w2.cell? ⟨w.heap.size, 1, none⟩ = some v := (hb2.cell (p := ⟨w.heap.size, 1, none⟩) hbs).trans hv
      clear hb2
      go_wp2
      go_ret2
      exact ⟨Hb2.out, .inl ⟨m1, v, Hrv.out, rfl, Hown2.out, Hi.out⟩⟩
    · rw [if_neg ht] at Hrv
      generalize textV p m1 = T at *
      have hbeq : (T == s) = false := by simpa using ht
      go_wp2_with fail
      refine Htx.out.mono ?_
      rintro e w2 ⟨rfl, hb2⟩
      have Hb2 := Lib.hid (hb1.trans (hb2.mono hb1.size))
      clear hb2
      go_wp2
      go_ret2
      exact ⟨Hb2.out, .inr ⟨Hrv.out, .slice none 0 0, rfl, rfl⟩⟩
  · have hb1 : Below w.heap.size w w1 := ((Below.refl _ _).alloc (Nat.le_refl _) _).trans hb1'
    have Hb1 := Lib.hid hb1
    have Hrv : Hid (rdV p s = none) := by unfold Hid; rw [hrv.out, hr1]
    clear hb1' hb1 hr1
    go_wp2
    go_ret2
    exact ⟨Hb1.out, .inr ⟨Hrv.out, .slice none 0 0, rfl, rfl⟩⟩
end Go.Proofs.YtmcdfbjmbelklaaDoor

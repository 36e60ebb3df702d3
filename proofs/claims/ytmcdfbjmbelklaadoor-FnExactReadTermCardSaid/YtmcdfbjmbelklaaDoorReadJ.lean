/- Contracts of the program's reader of texts: its methods, by the reader in Lean. -/
import Derived.Test.YtmcdfbjmbelklaaDoorReadI
namespace Go.Proofs.YtmcdfbjmbelklaaDoor
open Go.RowKit Go.Joins

/-- the method f, called at this text, does as the reader in Lean does in this mode -/
def ReadC (f : Nat) (mode : Nat) (s : List UInt8) : Prop := ∀ (m : List (Int × Int)) (b base : Nat) (w : World), RS w b base s m → m.length + s.length ≤ 1000 → base ≤ w.heap.size →
  Calls Tryd.prog f #[.pointer (some ⟨b, 0, none⟩)] w fun e w' => Below b w w' ∧ ((∃ s' m', rdAt 26 10 mode s m = some (s', m') ∧ e = .returned (.bool true) ∧ RS w' b base s' m') ∨ (rdAt 26 10 mode s m = none ∧ e = .returned (.bool false)))
theorem RS.text {w : World} {b base : Nat} {s : List UInt8} {m : List (Int × Int)} (h : RS w b base s m) : w.cell? ⟨b, 0, none⟩ = some (sv s) ∧ w.frozen? ⟨b, 0, none⟩ = false ∧ b < w.heap.size ∧ b < base := ⟨h.2.2.2.2.1, h.2.2.1, h.2.1, h.1⟩
set_option maxRecDepth 100000 in
set_option maxHeartbeats 1000000 in
theorem readHeld_nil : ReadC 65 1 [] := by
  intro m b base w hrs hl hbase
  have Hr := Lib.hid (rdAt_held_nil (nl := 26) (nd := 10) m)
  have Htook := Lib.hid (tookNo 40 [] (by simp) (by simp) b base m w hrs)
  clear hl hrs
  go_enter Tryd.func65, Tryd.ntmps65
  go_wp2_with fail
  refine Htook.out.mono ?_
  rintro e w1 ⟨rfl, hrs1, hb1⟩
  have Hb1 := Lib.hid hb1
  obtain ⟨hc, hf, hbs, hbb⟩ := hrs1.text
  clear hrs1 hb1
  go_wp2
  go_ret
  exact ⟨Hb1.out, .inr ⟨Hr.out, rfl⟩⟩
set_option maxRecDepth 100000 in
set_option maxHeartbeats 1000000 in
theorem readHeld_open (r : List UInt8) (h5 : ReadC 34 5 r) : ReadC 65 1 (40 :: r) := by
  intro m b base w hrs hl hbase
  have hrl : r.length ≤ 1000 := by simp only [List.length_cons] at hl; omega
  have hr := rdAt_held (nl := 26) (nd := 10) 40 r m
  rw [if_pos rfl] at hr
  have Hr := Lib.hid hr; clear hr
  have Htook := Lib.hid (tookYes 40 r hrl b base m w hrs)
  have H5 := Lib.hid h5; clear h5
  have Hl : Hid (m.length + r.length ≤ 1000) := by simp only [List.length_cons] at hl; unfold Hid; omega
  clear hl hrs
  go_enter Tryd.func65, Tryd.ntmps65
  go_wp2_with fail
  refine Htook.out.mono ?_
  rintro e w1 ⟨rfl, hrs1, hb1⟩
  have Hb1 := Lib.hid hb1
  have hbase1 : base ≤ w1.heap.size := by have := hb1.size; omega
  have Hrs1 := Lib.hid hrs1
  clear hrs1 hb1
  go_wp2_with fail
  refine (H5.out m b base _ Hrs1.out Hl.out hbase1).mono ?_
  rintro e w2 ⟨hb2, ⟨s2, m2, hr2, rfl, hrs2⟩ | ⟨hr2, rfl⟩⟩
  · have Hb2 := Lib.hid (Hb1.out.trans hb2)
    have hsh := (rdAt_shape (nl := 26) (nd := 10) (.inr (.inr (.inl ⟨by omega, by omega⟩))) hr2).1
    have hsl : s2.length ≤ 1000 := by omega
    by_cases hh : s2.head? = some 41
    · cases s2 with
      | nil => simp at hh
      | cons d r2 =>
        simp only [List.head?_cons, Option.some.injEq] at hh
        subst hh
        have Hr2 : Hid (rdAt 26 10 1 (40 :: r) m = some (r2, m2)) := by
          unfold Hid; rw [Hr.out, hr2]; rfl
        have Htook2 := Lib.hid (tookYes 41 r2 (by simp only [List.length_cons] at hsl; omega) b base m2 w2 hrs2)
        clear hr2 hrs2 hsh hsl hb2
        go_wp2_with fail
        refine Htook2.out.mono ?_
        rintro e w3 ⟨rfl, hrs3, hb3⟩
        have Hb3 := Lib.hid (Hb2.out.trans hb3)
        have Hrs3 := Lib.hid hrs3
        clear hrs3 hb3
        go_wp2
        go_ret
        exact ⟨Hb3.out, .inl ⟨_, _, Hr2.out, rfl, Hrs3.out⟩⟩
    · have Hr2 : Hid (rdAt 26 10 1 (40 :: r) m = none) := by
        unfold Hid; rw [Hr.out, hr2]
        cases s2 with
        | nil => rfl
        | cons d r2 => exact if_neg (fun e => hh (by rw [e]; rfl))
      have Htook2 := Lib.hid (tookNo 41 s2 hh hsl b base m2 w2 hrs2)
      clear hr2 hrs2 hsh hsl hb2 hh
      go_wp2_with fail
      refine Htook2.out.mono ?_
      rintro e w3 ⟨rfl, hrs3, hb3⟩
      have Hb3 := Lib.hid (Hb2.out.trans hb3)
      clear hrs3 hb3
      go_wp2
      go_ret
      exact ⟨Hb3.out, .inr ⟨Hr2.out, rfl⟩⟩
  · have Hb2 := Lib.hid (Hb1.out.trans hb2)
    have Hr2 : Hid (rdAt 26 10 1 (40 :: r) m = none) := by
      unfold Hid; rw [Hr.out, hr2]
    clear hr2 hb2
    go_wp2
    go_ret
    exact ⟨Hb2.out, .inr ⟨Hr2.out, rfl⟩⟩
set_option maxRecDepth 100000 in
set_option maxHeartbeats 1000000 in
theorem readHeld_letter (c : UInt8) (r : List UInt8) (hc0 : c ≠ 40) (h : 97 ≤ c.toNat ∧ c.toNat < 97 + 26) : ReadC 65 1 (c :: r) := by
  intro m b base w hrs hl hbase
  have hrl : r.length ≤ 1000 := by simp only [List.length_cons] at hl; omega
  have hr := rdAt_held (nl := 26) (nd := 10) c r m
  rw [if_neg hc0, if_pos h] at hr
  have Hr := Lib.hid hr; clear hr
  have Htook := Lib.hid (tookNo 40 (c :: r) (by simpa using hc0) (by simp only [List.length_cons] at hl ⊢; omega) b base m w hrs)
  have hget : (⟨(c :: r).toArray⟩ : ByteArray)[0]'(by show 0 < r.length + 1; omega) = c := rfl
  have h1 := head_toList c r
  have h2 := ext_tail c r
  have hml : m.length ≤ 1000 := by omega
  clear hl hrs hc0
  have ha : (97 : Int) ≤ (c.toNat : Int) := by omega
  have hb : (c.toNat : Int) ≤ 122 := by omega
  go_enter Tryd.func65, Tryd.ntmps65
  go_wp2_with fail
  refine Htook.out.mono ?_
  rintro e w1 ⟨rfl, hrs1, hb1⟩
  have Hb1 := Lib.hid hb1
  have Hst := Lib.hid (hrs1.store r)
  have hbase1 : base ≤ w1.heap.size := by have := hb1.size; omega
  have hbase2 : Hid (base ≤ (w1.setCell ⟨b, 0, none⟩ (sv r)).heap.size) := by have := Hst.out.2.size; unfold Hid; omega
  obtain ⟨hc, hf, hbs, hbb⟩ := hrs1.text
  clear hrs1 hb1
  go_wp2_with fail
  refine (putMark 0 ((c.toNat : Int) - 97) b base r m _ hml hbase2.out Hst.out.1).mono ?_
  rintro e w3 ⟨rfl, hrs3, hb3⟩
  have Hb3 := Lib.hid ((Hb1.out.trans Hst.out.2).trans hb3)
  have Hrs3 := Lib.hid hrs3
  clear hrs3 hb3
  go_wp2
  go_ret
  exact ⟨Hb3.out, .inl ⟨_, _, Hr.out, rfl, Hrs3.out⟩⟩
set_option maxRecDepth 100000 in
set_option maxHeartbeats 1000000 in
theorem readHeld_digit (c : UInt8) (r : List UInt8) (hc0 : c ≠ 40) (h0 : ¬ 97 ≤ c.toNat) (h : 48 ≤ c.toNat ∧ c.toNat < 48 + 10) : ReadC 65 1 (c :: r) := by
  intro m b base w hrs hl hbase
  have hrl : r.length ≤ 1000 := by simp only [List.length_cons] at hl; omega
  have hr := rdAt_held (nl := 26) (nd := 10) c r m
  rw [if_neg hc0, if_neg (by omega), if_pos h] at hr
  have Hr := Lib.hid hr; clear hr
  have Htook := Lib.hid (tookNo 40 (c :: r) (by simpa using hc0) (by simp only [List.length_cons] at hl ⊢; omega) b base m w hrs)
  have hget : (⟨(c :: r).toArray⟩ : ByteArray)[0]'(by show 0 < r.length + 1; omega) = c := rfl
  have h1 := head_toList c r
  have h2 := ext_tail c r
  have hml : m.length ≤ 1000 := by omega
  clear hl hrs hc0
  have ha : (48 : Int) ≤ (c.toNat : Int) := by omega
  have hb : (c.toNat : Int) ≤ 57 := by omega
  have hd : ¬ (97 : Int) ≤ (c.toNat : Int) := by omega
  go_enter Tryd.func65, Tryd.ntmps65
  go_wp2_with fail
  refine Htook.out.mono ?_
  rintro e w1 ⟨rfl, hrs1, hb1⟩
  have Hb1 := Lib.hid hb1
  have Hst := Lib.hid (hrs1.store r)
  have hbase1 : base ≤ w1.heap.size := by have := hb1.size; omega
  have hbase2 : Hid (base ≤ (w1.setCell ⟨b, 0, none⟩ (sv r)).heap.size) := by have := Hst.out.2.size; unfold Hid; omega
  obtain ⟨hc, hf, hbs, hbb⟩ := hrs1.text
  clear hrs1 hb1
  go_wp2_with fail
  refine (putMark 1 ((c.toNat : Int) - 48) b base r m _ hml hbase2.out Hst.out.1).mono ?_
  rintro e w3 ⟨rfl, hrs3, hb3⟩
  have Hb3 := Lib.hid ((Hb1.out.trans Hst.out.2).trans hb3)
  have Hrs3 := Lib.hid hrs3
  clear hrs3 hb3
  go_wp2
  go_ret
  exact ⟨Hb3.out, .inl ⟨_, _, Hr.out, rfl, Hrs3.out⟩⟩
set_option maxRecDepth 100000 in
set_option maxHeartbeats 1000000 in
theorem readHeld_other (c : UInt8) (r : List UInt8) (hc0 : c ≠ 40) (h0 : ¬ (97 ≤ c.toNat ∧ c.toNat < 97 + 26)) (h1 : ¬ (48 ≤ c.toNat ∧ c.toNat < 48 + 10)) : ReadC 65 1 (c :: r) := by
  intro m b base w hrs hl hbase
  have hrl : r.length ≤ 1000 := by simp only [List.length_cons] at hl; omega
  have hr := rdAt_held (nl := 26) (nd := 10) c r m
  rw [if_neg hc0, if_neg h0, if_neg h1] at hr
  have Hr := Lib.hid hr; clear hr
  have Htook := Lib.hid (tookNo 40 (c :: r) (by simpa using hc0) (by simp only [List.length_cons] at hl ⊢; omega) b base m w hrs)
  have hget : (⟨(c :: r).toArray⟩ : ByteArray)[0]'(by show 0 < r.length + 1; omega) = c := rfl
  have he1 := head_toList c r
  have he2 := ext_tail c r
  clear hl hrs hc0
  have hx : Hid ((c.toNat : Int) < 48 ∨ (57 < (c.toNat : Int) ∧ (c.toNat : Int) < 97) ∨ 122 < (c.toNat : Int)) := by unfold Hid; omega
  clear h0 h1
  go_enter Tryd.func65, Tryd.ntmps65
  go_wp2_with fail
  refine Htook.out.mono ?_
  rintro e w1 ⟨rfl, hrs1, hb1⟩
  have Hst := Lib.hid (hrs1.store r)
  have Hb1 := Lib.hid (hb1.trans Hst.out.2)
  obtain ⟨hc, hf, hbs, hbb⟩ := hrs1.text
  clear hrs1 hb1
  rcases hx.out with h | ⟨h, h'⟩ | h
  · have h2 : ¬ (48 : Int) ≤ (c.toNat : Int) := by omega
    have h3 : ¬ (97 : Int) ≤ (c.toNat : Int) := by omega
    go_wp2
    go_ret
    exact ⟨Hb1.out, .inr ⟨Hr.out, rfl⟩⟩
  · have h2 : (48 : Int) ≤ (c.toNat : Int) := by omega
    have h3 : ¬ (97 : Int) ≤ (c.toNat : Int) := by omega
    have h4 : ¬ (c.toNat : Int) ≤ 57 := by omega
    go_wp2
    go_ret
    exact ⟨Hb1.out, .inr ⟨Hr.out, rfl⟩⟩
  · have h2 : (48 : Int) ≤ (c.toNat : Int) := by omega
    have h3 : (97 : Int) ≤ (c.toNat : Int) := by omega
    have h4 : ¬ (c.toNat : Int) ≤ 57 := by omega
    have h5 : ¬ (c.toNat : Int) ≤ 122 := by omega
    go_wp2
    go_ret
    exact ⟨Hb1.out, .inr ⟨Hr.out, rfl⟩⟩
theorem readHeldC (s : List UInt8) (h5 : ∀ r, r.length < s.length → ReadC 34 5 r) : ReadC 65 1 s := by
  cases s with
  | nil => exact readHeld_nil
  | cons c r =>
    by_cases hc : c = 40
    · subst hc; exact readHeld_open r (h5 r (by simp))
    · by_cases h1 : 97 ≤ c.toNat ∧ c.toNat < 97 + 26
      · exact readHeld_letter c r hc h1
      · by_cases h2 : 48 ≤ c.toNat ∧ c.toNat < 48 + 10
        · exact readHeld_digit c r hc (by omega) h2
        · exact readHeld_other c r hc h1 h2
set_option maxRecDepth 100000 in
set_option maxHeartbeats 1000000 in
theorem readNot_no (s : List UInt8) (hs : s.head? ≠ some 33) (h1 : ReadC 65 1 s) : ReadC 59 2 s := by
  intro m b base w hrs hl hbase
  have hr : rdAt 26 10 2 s m = rdAt 26 10 1 s m := by
    cases s with
    | nil => rw [rdAt_not_nil, rdAt_held_nil]
    | cons c r => rw [rdAt_not, if_neg (fun e => hs (by rw [e]; rfl))]
  have Hr := Lib.hid hr; clear hr
  have Htook := Lib.hid (tookNo 33 s hs (by omega) b base m w hrs)
  have H1 := Lib.hid h1; clear h1
  clear hrs hs
  go_enter Tryd.func59, Tryd.ntmps59
  go_wp2_with fail
  refine Htook.out.mono ?_
  rintro e w1 ⟨rfl, hrs1, hb1⟩
  have Hb1 := Lib.hid hb1
  have hbase1 : base ≤ w1.heap.size := by have := hb1.size; omega
  have Hrs1 := Lib.hid hrs1
  clear hrs1 hb1
  go_wp2_with fail
  refine (H1.out m b base _ Hrs1.out hl hbase1).mono ?_
  rintro e w2 ⟨hb2, ⟨s2, m2, hr2, rfl, hrs2⟩ | ⟨hr2, rfl⟩⟩
  · have Hb2 := Lib.hid (Hb1.out.trans hb2)
    have Hrs2 := Lib.hid hrs2
    have Hr2 := Lib.hid (Hr.out.trans hr2)
    clear hb2 hrs2 hr2
    go_wp2
    go_ret
    exact ⟨Hb2.out, .inl ⟨_, _, Hr2.out, rfl, Hrs2.out⟩⟩
  · have Hb2 := Lib.hid (Hb1.out.trans hb2)
    have Hr2 := Lib.hid (Hr.out.trans hr2)
    clear hb2 hr2
    go_wp2
    go_ret
    exact ⟨Hb2.out, .inr ⟨Hr2.out, rfl⟩⟩
theorem mlen_after {mode : Nat} {s s' : List UInt8} {m m' : List (Int × Int)} (hm : Mode mode) (h : rdAt 26 10 mode s m = some (s', m')) (hl : m.length + s.length ≤ 1000) : m'.length + s'.length ≤ 1000 := by
  have := (rdAt_shape hm h).2.2.1
  omega
set_option maxRecDepth 100000 in
set_option maxHeartbeats 1000000 in
theorem readNot_yes (r : List UInt8) (h2 : ReadC 59 2 r) : ReadC 59 2 (33 :: r) := by
  intro m b base w hrs hl hbase
  have hr := rdAt_not (nl := 26) (nd := 10) 33 r m
  rw [if_pos rfl] at hr
  have Hr := Lib.hid hr; clear hr
  have hrl : r.length ≤ 1000 := by simp only [List.length_cons] at hl; omega
  have Hl : Hid (m.length + r.length ≤ 1000) := by simp only [List.length_cons] at hl; unfold Hid; omega
  have Htook := Lib.hid (tookYes 33 r hrl b base m w hrs)
  have H2 := Lib.hid h2; clear h2
  clear hrs hl
  go_enter Tryd.func59, Tryd.ntmps59
  go_wp2_with fail
  refine Htook.out.mono ?_
  rintro e w1 ⟨rfl, hrs1, hb1⟩
  have Hb1 := Lib.hid hb1
  have hbase1 : base ≤ w1.heap.size := by have := hb1.size; omega
  have Hrs1 := Lib.hid hrs1
  clear hrs1 hb1
  go_wp2_with fail
  refine (H2.out m b base _ Hrs1.out Hl.out hbase1).mono ?_
  rintro e w2 ⟨hb2, ⟨s2, m2, hr2, rfl, hrs2⟩ | ⟨hr2, rfl⟩⟩
  · have hbase2 : base ≤ w2.heap.size := by have := hb2.size; omega
    have Hb2 := Lib.hid (Hb1.out.trans hb2)
    have Hrs2 := Lib.hid hrs2
    have hml := mlen_after (.inr (.inl rfl)) hr2 Hl.out
    have hml2 : m2.length ≤ 1000 := by omega
    have Hr2 : Hid (rdAt 26 10 2 (33 :: r) m = some (s2, m2 ++ [(2, 0)])) := by unfold Hid; rw [Hr.out, hr2]
    clear hb2 hrs2 hr2 hml
    go_wp2_with fail
    refine (putMark 2 0 b base s2 m2 _ hml2 hbase2 Hrs2.out).mono ?_
    rintro e w3 ⟨rfl, hrs3, hb3⟩
    have Hb3 := Lib.hid (Hb2.out.trans hb3)
    have Hrs3 := Lib.hid hrs3
    clear hrs3 hb3
    go_wp2
    go_ret
    exact ⟨Hb3.out, .inl ⟨_, _, Hr2.out, rfl, Hrs3.out⟩⟩
  · have Hb2 := Lib.hid (Hb1.out.trans hb2)
    have Hr2 : Hid (rdAt 26 10 2 (33 :: r) m = none) := by unfold Hid; rw [Hr.out, hr2]
    clear hb2 hr2
    go_wp2
    go_ret
    exact ⟨Hb2.out, .inr ⟨Hr2.out, rfl⟩⟩
theorem readNotC (s : List UInt8) (h1 : ReadC 65 1 s) (h2 : ∀ r, r.length < s.length → ReadC 59 2 r) : ReadC 59 2 s := by
  by_cases hs : s.head? = some 33
  · cases s with
    | nil => simp at hs
    | cons c r =>
      simp only [List.head?_cons, Option.some.injEq] at hs
      subst hs
      exact readNot_yes r (h2 r (by simp))
  · exact readNot_no s hs h1
end Go.Proofs.YtmcdfbjmbelklaaDoor

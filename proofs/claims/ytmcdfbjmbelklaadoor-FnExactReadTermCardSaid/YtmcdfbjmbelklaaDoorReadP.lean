/- Contract of the reference's ReadTerm; both contracts in one form. -/
import Derived.Test.YtmcdfbjmbelklaaDoorReadO
namespace Go.Proofs.YtmcdfbjmbelklaaDoor
open Go.RowKit Go.Joins
/-- what a reader hands back: a row of its own, and whether the text is that of a term -/
def ReadIs (p : Int) (s : List UInt8) (w : World) (e : Ending) (w' : World) : Prop :=
  Below w.heap.size w w' ∧ ∃ v, e = .returned (.tuple #[v, .bool (rdV p s).isSome]) ∧ w'.ownsRow w.heap.size TM 2 v ((rdV p s).getD []).length (mcells ((rdV p s).getD [])) ∧ I64s ((rdV p s).getD [])
theorem I64s_nil : I64s [] := fun x hx => by simp at hx
theorem implReadIs (p : Int) (s : List UInt8) (hs : s.length ≤ 4611686018427387904) (w : World) : Calls Tryd.prog 13 #[.int .i64 p, sv s] w (ReadIs p s w) := by
  refine (implReadTerm p s hs w).mono ?_
  rintro e w' ⟨hb, ⟨m, v, hr, rfl, hown, hi⟩ | ⟨hr, v, rfl, rfl⟩⟩
  · exact ⟨hb, v, by rw [hr]; rfl, by rw [hr]; exact hown, by rw [hr]; exact hi⟩
  · exact ⟨hb, _, by rw [hr]; rfl, by rw [hr]; exact World.ownsRow_nil _ _ _ _, by rw [hr]; exact I64s_nil⟩
theorem ReadIs.no {p : Int} {s : List UInt8} {w w1 : World} (hr : rdV p s = none) (hb : Below w.heap.size w w1) : ReadIs p s w (.returned (.tuple #[.slice (some ⟨w1.heap.size, 0, none⟩) 0 0, .bool false])) (w1.alloc (.cells #[] TM)) :=
  ⟨hb.alloc hb.size _, _, by rw [hr]; rfl, by rw [hr]; exact World.ownsRow_made w1 #[] 0 hb.size (Nat.zero_le _) rfl, by rw [hr]; exact I64s_nil⟩
set_option maxRecDepth 100000 in
set_option maxHeartbeats 1000000 in
theorem specReadIs (p : Int) (s : List UInt8) (hs : s.length ≤ 4611686018427387904) (w : World) :
    Calls Tryd.prog 16 #[.int .i64 p, sv s] w (ReadIs p s w) := by
  by_cases hlen : 60 < s.length
  · have hn : Hid (rdV p s = none) := by unfold Hid rdV; rw [if_pos hlen]
    have hl : (60 : Int) < (s.length : Int) := by omega
    have Hno := Lib.hid (ReadIs.no hn.out (Below.refl w.heap.size w))
    clear hlen hs
    go_enter Tryd.func16, Tryd.ntmps16
    go_wp2
    go_ret2
    exact Hno.out
  have hl : ¬ (60 : Int) < (s.length : Int) := by omega
  have hrv : Hid (rdV p s = match rdAt 4 6 5 s [] with | some (s', m) => if s' = [] ∧ textV p m = s then some m else none | none => none) := by
    unfold Hid; rw [← rdVS_eq]; unfold rdVS; exact if_neg hlen
  have H5 := Lib.hid (specLevel5 s (by omega) w)
  clear hs
  go_enter Tryd.func16, Tryd.ntmps16
  go_wp2_with fail
  refine H5.out.mono ?_
  rintro e w1 ⟨hb1, g, cap, t, n, rfl, hown, ⟨j, rfl, hj1, hj2, hj3, hrd⟩ | ⟨rfl, hj3, hrd⟩⟩
  · rw [List.drop_zero] at hrd
    by_cases hj : j = s.length
    · subst hj
      rw [List.drop_length] at hrd
      have hi := I64s_read hrd
      have Hrv : Hid (rdV p s = if textV p t = s then some t else none) := by unfold Hid; rw [hrv.out, hrd]; simp
      have Hown := Lib.hid hown
      have hrd1 := Lib.hid (RdMarks.of_own hown hi)
      have Hi := Lib.hid hi
      have hnil : ¬ ([] : List UInt8) = s := by rintro rfl; simp at hj1
      clear hown hi hrd hj1 hj2 hrv
      cases hok : termOk p t with
      | false =>
        have Hno := Lib.hid (ReadIs.no (p := p) (s := s) (w1 := w1) (by rw [Hrv.out, textV_no hok, if_neg hnil]) hb1)
        have Hok := Lib.hid hok
        clear hb1 hok
        go_wp2_with fail
        refine (specTermOk _ _ _ _ _ hrd1.out).mono ?_
        rintro e w' ⟨rfl, rfl⟩
        rw [Hok.out]
        go_wp2
        go_ret2
        exact Hno.out
      | true =>
        obtain ⟨⟨hp1, hp4⟩, hlen15, T, hT, hpost⟩ := termOk_iff.1 hok
        subst hpost
        have Hok := Lib.hid hok
        have Htx := Lib.hid (fun (B : Nat) (v : Value) (W : World) h hB => specTextC hp4 T hT hlen15 B v W h hB)
        rw [textV_of hok hT] at Hrv
        clear hok
        by_cases ht : txt T = s
        · rw [if_pos ht] at Hrv
          rw [ht] at Htx
          clear ht
          go_wp2_with fail
          refine (specTermOk _ _ _ _ _ hrd1.out).mono ?_
          rintro e w' ⟨rfl, rfl⟩
          rw [Hok.out]
          go_wp2_with fail
          refine (Htx.out _ _ _ hrd1.out (Nat.le_refl _)).mono ?_
          rintro e w2 ⟨rfl, hb2⟩
          have Hb2 := Lib.hid (hb1.trans (hb2.mono hb1.size))
          have Hown2 := Lib.hid (own_below Hown.out hb2)
          clear hb2
          go_wp2
          go_ret2
          exact ⟨Hb2.out, _, by rw [Hrv.out]; rfl, by rw [Hrv.out]; exact Hown2.out, by rw [Hrv.out]; exact Hi.out⟩
        · rw [if_neg ht] at Hrv
          have hbeq : (txt T == s) = false := by simpa using ht
          generalize txt T = X at *
          go_wp2_with fail
          refine (specTermOk _ _ _ _ _ hrd1.out).mono ?_
          rintro e w' ⟨rfl, rfl⟩
          rw [Hok.out]
          go_wp2_with fail
          refine (Htx.out _ _ _ hrd1.out (Nat.le_refl _)).mono ?_
          rintro e w2 ⟨rfl, hb2⟩
          have Hno := Lib.hid (ReadIs.no Hrv.out (hb1.trans (hb2.mono hb1.size)))
          clear hb2
          go_wp2
          go_ret2
          exact Hno.out
    · have Hno := Lib.hid (ReadIs.no (p := p) (s := s) (w1 := w1) (by
        rw [hrv.out, hrd]
        have hne : ¬ s.drop j = [] := by simp; omega
        exact if_neg (fun h => hne h.1)) hb1)
      have hne : ¬ (j : Int) = (s.length : Int) := by omega
      have hneb : ((j : Int) == (s.length : Int)) = false := by simpa using hne
      clear hb1 hown hrd hrv
      go_wp2
      go_ret2
      exact Hno.out
  · rw [List.drop_zero] at hrd
    have Hno := Lib.hid (ReadIs.no (p := p) (s := s) (w1 := w1) (by rw [hrv.out, hrd]) hb1)
    have hne : ¬ (-1 : Int) = (s.length : Int) := by omega
    have hneb : ((-1 : Int) == (s.length : Int)) = false := by simp
    clear hb1 hown hrd hrv
    go_wp2
    go_ret2
    exact Hno.out
end Go.Proofs.YtmcdfbjmbelklaaDoor

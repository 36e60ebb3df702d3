/- Contracts of the program's reader of texts: the three ways to join, and all methods together. -/
import Derived.Test.YtmcdfbjmbelklaaDoorReadJ
namespace Go.Proofs.YtmcdfbjmbelklaaDoor
open Go.RowKit Go.Joins
/-- how much is still to be read -/
def restOf (w : World) (b : Nat) : Nat := match w.cell? ⟨b, 0, none⟩ with | some (.string x) => x.size | _ => 0
theorem RS.rest {w : World} {b base : Nat} {s : List UInt8} {m : List (Int × Int)} (h : RS w b base s m) : restOf w b = s.length := by
  unfold restOf
  rw [h.text.1]
  show (ByteArray.mk s.toArray).size = _
  simp [ByteArray.size]
theorem run_makeFunc (P : Program) (fn : Fn) (first cap : Array Value) (w : World) : (Instr.makeFunc fn first cap).run P w = .ok (.func fn first cap) w := rfl
set_option maxRecDepth 100000 in
set_option maxHeartbeats 1000000 in
theorem readJoinedNot (k : Nat) (hk : 3 ≤ k ∧ k ≤ 5) (s : List UInt8) (h : ∀ s' : List UInt8, s'.length ≤ s.length → ReadC 59 (k - 1) s') (m : List (Int × Int)) (b base : Nat) (w : World) (hrs : RS w b base s m) (hl : m.length + s.length ≤ 1000) (hbase : base ≤ w.heap.size) :
    Calls Tryd.prog 49 #[.pointer (some ⟨b, 0, none⟩), .int .i64 k, .func (.func 59) #[.pointer (some ⟨b, 0, none⟩)] #[]] w fun e w' => Below b w w' ∧ ((∃ s' m', rdAt 26 10 k s m = some (s', m') ∧ e = .returned (.bool true) ∧ RS w' b base s' m') ∨ (rdAt 26 10 k s m = none ∧ e = .returned (.bool false))) := by
  have Hr := Lib.hid (rdAt_level (nl := 26) (nd := 10) hk s m)
  have H := Lib.hid h; clear h
  have hm1 : Mode (k - 1) := by unfold Mode; omega
  have Hjs := Lib.hid (implJoinSign k (by omega))
  obtain ⟨wo, rfl⟩ : ∃ wo : World, wo = w := ⟨_, rfl⟩
  go_enter Tryd.func49, Tryd.ntmps49
  go_wp2_with fail
  refine (H.out s (Nat.le_refl _) m b base _ hrs hl hbase).mono ?_
  rintro e w1 ⟨hb1, ⟨s1, m1, hr1, rfl, hrs1⟩ | ⟨hr1, rfl⟩⟩
  · have Hr1 : Hid (rdAt 26 10 k s m = rdAt 26 10 (k + 10) s1 m1) := by unfold Hid; rw [Hr.out, hr1]
    have hl1 := mlen_after hm1 hr1 hl
    have hs1 := (rdAt_shape hm1 hr1).1
    clear hrs hr1 hl
    go_wp2_with fail
    go_loopw [] (fun wr => Below b wo wr ∧ ∃ (s1 : List UInt8) (m1 : List (Int × Int)), RS wr b base s1 m1 ∧ m1.length + s1.length ≤ 1000 ∧ s1.length ≤ s.length ∧ Hid (rdAt 26 10 k s m = rdAt 26 10 (k + 10) s1 m1)) (fun wr => restOf wr b)
    case atStart => exact ⟨hb1, s1, m1, hrs1, hl1, hs1, Hr1⟩
    case round =>
      clear hb1 hrs1 hl1 hs1 Hr1
      obtain ⟨hb2, s2, m2, hrs2, hl2, hs2, Hr2⟩ := hrel
      have hbase2 : base ≤ wr.heap.size := by have := hb2.size; omega
      have Hb2 := Lib.hid hb2; clear hb2
      by_cases hh : s2.head? = some (sign k)
      · cases s2 with
        | nil => simp at hh
        | cons c r =>
          simp only [List.head?_cons, Option.some.injEq] at hh
          subst hh
          simp only [List.length_cons] at hl2 hs2
          have hr3 := Hr2.out
          rw [rdAt_loop hk, if_pos rfl] at hr3
          have Hr3 := Lib.hid hr3; clear hr3 Hr2
          have Htook := Lib.hid (tookYes (sign k) r (by omega) b base m2 _ hrs2)
          have Hms := Lib.hid hrs2.rest
          clear hrs2
          go_wp2_with fail
          refine (Hjs.out _).mono ?_
          rintro e w' ⟨rfl, rfl⟩
          go_wp2_with fail
          refine Htook.out.mono ?_
          rintro e w3 ⟨rfl, hrs3, hb3⟩
          have hbase3 : base ≤ w3.heap.size := by have := hb3.size; omega
          have Hb3 := Lib.hid (Hb2.out.trans hb3)
          clear hb3
          go_wp2_with fail
          refine (H.out r (by omega) m2 b base _ hrs3 (by omega) hbase3).mono ?_
          rintro e w4 ⟨hb4, ⟨s4, m4, hr4, rfl, hrs4⟩ | ⟨hr4, rfl⟩⟩
          · have hbase4 : base ≤ w4.heap.size := by have := hb4.size; omega
            have Hb4 := Lib.hid (Hb3.out.trans hb4)
            have hl4 := mlen_after hm1 hr4 (by omega)
            have hml4 : m4.length ≤ 1000 := by omega
            have hsh := rdAt_shape hm1 hr4
            have hs4 := hsh.2.1 (by omega)
            have hk4 := hsh.2.2.1
            clear hsh
            rw [show (rdAt 26 10 (k - 1) r m2) = some (s4, m4) from hr4] at Hr3
            have Hr4 : Hid (rdAt 26 10 k s m = rdAt 26 10 (k + 10) s4 (m4 ++ [((k : Int), 0)])) := Hr3
            clear hr4 hb4 hrs3 Hr3
            go_wp2_with fail
            refine (putMark k 0 b base s4 m4 _ hml4 hbase4 hrs4).mono ?_
            rintro e w5 ⟨rfl, hrs5, hb5⟩
            have Hb5 := Lib.hid (Hb4.out.trans hb5)
            have Hms5 := Lib.hid hrs5.rest
            have Hrs5 := Lib.hid hrs5
            clear hb5 hrs4 hrs5
            go_wp2
            go_roundw
            case rel => exact ⟨Hb5.out, s4, _, Hrs5.out, by rw [List.length_append]; simp only [List.length_cons, List.length_nil]; omega, by omega, Hr4⟩
            case measure => rw [Hms.out, Hms5.out]; simp only [List.length_cons]; omega
          · have Hb4 := Lib.hid (Hb3.out.trans hb4)
            rw [show (rdAt 26 10 (k - 1) r m2) = none from hr4] at Hr3
            have Hr4 : Hid (rdAt 26 10 k s m = none) := Hr3
            clear hr4 hb4 hrs3 Hr3
            go_wp2
            go_ret
            exact ⟨Hb4.out, .inr ⟨Hr4.out, rfl⟩⟩
      · have Hr3 : Hid (rdAt 26 10 k s m = some (s2, m2)) := by
          unfold Hid
          rw [Hr2.out]
          cases s2 with
          | nil => rw [rdAt_loop_nil hk]
          | cons c r => rw [rdAt_loop hk, if_neg (fun e => hh (by rw [e]; rfl))]
        have Htook := Lib.hid (tookNo (sign k) s2 hh (by omega) b base m2 _ hrs2)
        clear Hr2 hrs2 hh
        go_wp2_with fail
        refine (Hjs.out _).mono ?_
        rintro e w' ⟨rfl, rfl⟩
        go_wp2_with fail
        refine Htook.out.mono ?_
        rintro e w3 ⟨rfl, hrs3, hb3⟩
        have Hb3 := Lib.hid (Hb2.out.trans hb3)
        have Hrs3 := Lib.hid hrs3
        clear hb3 hrs3
        go_wp2
        go_ret
        exact ⟨Hb3.out, .inl ⟨_, _, Hr3.out, rfl, Hrs3.out⟩⟩
  · have Hb1 := Lib.hid hb1
    have Hr1 : Hid (rdAt 26 10 k s m = none) := by unfold Hid; rw [Hr.out, hr1]
    clear hb1 hr1 hrs hl
    go_wp2
    go_ret
    exact ⟨Hb1.out, .inr ⟨Hr1.out, rfl⟩⟩
set_option maxRecDepth 100000 in
set_option maxHeartbeats 1000000 in
theorem readAndC (s : List UInt8) (h : ∀ s' : List UInt8, s'.length ≤ s.length → ReadC 59 2 s') : ReadC 56 3 s := by
  intro m b base w hrs hl hbase
  have hmf := run_makeFunc Tryd.prog
  have Hj := Lib.hid (readJoinedNot 3 (by omega) s h m b base w hrs hl hbase)
  clear h hrs hl hbase
  go_enter Tryd.func56, Tryd.ntmps56
  go_wp2_with fail
  refine Hj.out.mono ?_
  rintro e w1 ⟨hb1, ⟨s1, m1, hr1, rfl, hrs1⟩ | ⟨hr1, rfl⟩⟩
  · have Hb1 := Lib.hid hb1
    have Hr1 := Lib.hid hr1
    have Hrs1 := Lib.hid hrs1
    clear hb1 hr1 hrs1
    go_wp2
    go_ret
    exact ⟨Hb1.out, .inl ⟨_, _, Hr1.out, rfl, Hrs1.out⟩⟩
  · have Hb1 := Lib.hid hb1
    have Hr1 := Lib.hid hr1
    clear hb1 hr1
    go_wp2
    go_ret
    exact ⟨Hb1.out, .inr ⟨Hr1.out, rfl⟩⟩
set_option maxRecDepth 100000 in
set_option maxHeartbeats 1000000 in
theorem readJoinedAnd (k : Nat) (hk : 3 ≤ k ∧ k ≤ 5) (s : List UInt8) (h : ∀ s' : List UInt8, s'.length ≤ s.length → ReadC 56 (k - 1) s') (m : List (Int × Int)) (b base : Nat) (w : World) (hrs : RS w b base s m) (hl : m.length + s.length ≤ 1000) (hbase : base ≤ w.heap.size) :
    Calls Tryd.prog 49 #[.pointer (some ⟨b, 0, none⟩), .int .i64 k, .func (.func 56) #[.pointer (some ⟨b, 0, none⟩)] #[]] w fun e w' => Below b w w' ∧ ((∃ s' m', rdAt 26 10 k s m = some (s', m') ∧ e = .returned (.bool true) ∧ RS w' b base s' m') ∨ (rdAt 26 10 k s m = none ∧ e = .returned (.bool false))) := by
  have Hr := Lib.hid (rdAt_level (nl := 26) (nd := 10) hk s m)
  have H := Lib.hid h; clear h
  have hm1 : Mode (k - 1) := by unfold Mode; omega
  have Hjs := Lib.hid (implJoinSign k (by omega))
  obtain ⟨wo, rfl⟩ : ∃ wo : World, wo = w := ⟨_, rfl⟩
  go_enter Tryd.func49, Tryd.ntmps49
  go_wp2_with fail
  refine (H.out s (Nat.le_refl _) m b base _ hrs hl hbase).mono ?_
  rintro e w1 ⟨hb1, ⟨s1, m1, hr1, rfl, hrs1⟩ | ⟨hr1, rfl⟩⟩
  · have Hr1 : Hid (rdAt 26 10 k s m = rdAt 26 10 (k + 10) s1 m1) := by unfold Hid; rw [Hr.out, hr1]
    have hl1 := mlen_after hm1 hr1 hl
    have hs1 := (rdAt_shape hm1 hr1).1
    clear hrs hr1 hl
    go_wp2_with fail
    go_loopw [] (fun wr => Below b wo wr ∧ ∃ (s1 : List UInt8) (m1 : List (Int × Int)), RS wr b base s1 m1 ∧ m1.length + s1.length ≤ 1000 ∧ s1.length ≤ s.length ∧ Hid (rdAt 26 10 k s m = rdAt 26 10 (k + 10) s1 m1)) (fun wr => restOf wr b)
    case atStart => exact ⟨hb1, s1, m1, hrs1, hl1, hs1, Hr1⟩
    case round =>
      clear hb1 hrs1 hl1 hs1 Hr1
      obtain ⟨hb2, s2, m2, hrs2, hl2, hs2, Hr2⟩ := hrel
      have hbase2 : base ≤ wr.heap.size := by have := hb2.size; omega
      have Hb2 := Lib.hid hb2; clear hb2
      by_cases hh : s2.head? = some (sign k)
      · cases s2 with
        | nil => simp at hh
        | cons c r =>
          simp only [List.head?_cons, Option.some.injEq] at hh
          subst hh
          simp only [List.length_cons] at hl2 hs2
          have hr3 := Hr2.out
          rw [rdAt_loop hk, if_pos rfl] at hr3
          have Hr3 := Lib.hid hr3; clear hr3 Hr2
          have Htook := Lib.hid (tookYes (sign k) r (by omega) b base m2 _ hrs2)
          have Hms := Lib.hid hrs2.rest
          clear hrs2
          go_wp2_with fail
          refine (Hjs.out _).mono ?_
          rintro e w' ⟨rfl, rfl⟩
          go_wp2_with fail
          refine Htook.out.mono ?_
          rintro e w3 ⟨rfl, hrs3, hb3⟩
          have hbase3 : base ≤ w3.heap.size := by have := hb3.size; omega
          have Hb3 := Lib.hid (Hb2.out.trans hb3)
          clear hb3
          go_wp2_with fail
          refine (H.out r (by omega) m2 b base _ hrs3 (by omega) hbase3).mono ?_
          rintro e w4 ⟨hb4, ⟨s4, m4, hr4, rfl, hrs4⟩ | ⟨hr4, rfl⟩⟩
          · have hbase4 : base ≤ w4.heap.size := by have := hb4.size; omega
            have Hb4 := Lib.hid (Hb3.out.trans hb4)
            have hl4 := mlen_after hm1 hr4 (by omega)
            have hml4 : m4.length ≤ 1000 := by omega
            have hsh := rdAt_shape hm1 hr4
            have hs4 := hsh.2.1 (by omega)
            have hk4 := hsh.2.2.1
            clear hsh
            rw [show (rdAt 26 10 (k - 1) r m2) = some (s4, m4) from hr4] at Hr3
            have Hr4 : Hid (rdAt 26 10 k s m = rdAt 26 10 (k + 10) s4 (m4 ++ [((k : Int), 0)])) := Hr3
            clear hr4 hb4 hrs3 Hr3
            go_wp2_with fail
            refine (putMark k 0 b base s4 m4 _ hml4 hbase4 hrs4).mono ?_
            rintro e w5 ⟨rfl, hrs5, hb5⟩
            have Hb5 := Lib.hid (Hb4.out.trans hb5)
            have Hms5 := Lib.hid hrs5.rest
            have Hrs5 := Lib.hid hrs5
            clear hb5 hrs4 hrs5
            go_wp2
            go_roundw
            case rel => exact ⟨Hb5.out, s4, _, Hrs5.out, by rw [List.length_append]; simp only [List.length_cons, List.length_nil]; omega, by omega, Hr4⟩
            case measure => rw [Hms.out, Hms5.out]; simp only [List.length_cons]; omega
          · have Hb4 := Lib.hid (Hb3.out.trans hb4)
            rw [show (rdAt 26 10 (k - 1) r m2) = none from hr4] at Hr3
            have Hr4 : Hid (rdAt 26 10 k s m = none) := Hr3
            clear hr4 hb4 hrs3 Hr3
            go_wp2
            go_ret
            exact ⟨Hb4.out, .inr ⟨Hr4.out, rfl⟩⟩
      · have Hr3 : Hid (rdAt 26 10 k s m = some (s2, m2)) := by
          unfold Hid
          rw [Hr2.out]
          cases s2 with
          | nil => rw [rdAt_loop_nil hk]
          | cons c r => rw [rdAt_loop hk, if_neg (fun e => hh (by rw [e]; rfl))]
        have Htook := Lib.hid (tookNo (sign k) s2 hh (by omega) b base m2 _ hrs2)
        clear Hr2 hrs2 hh
        go_wp2_with fail
        refine (Hjs.out _).mono ?_
        rintro e w' ⟨rfl, rfl⟩
        go_wp2_with fail
        refine Htook.out.mono ?_
        rintro e w3 ⟨rfl, hrs3, hb3⟩
        have Hb3 := Lib.hid (Hb2.out.trans hb3)
        have Hrs3 := Lib.hid hrs3
        clear hb3 hrs3
        go_wp2
        go_ret
        exact ⟨Hb3.out, .inl ⟨_, _, Hr3.out, rfl, Hrs3.out⟩⟩
  · have Hb1 := Lib.hid hb1
    have Hr1 : Hid (rdAt 26 10 k s m = none) := by unfold Hid; rw [Hr.out, hr1]
    clear hb1 hr1 hrs hl
    go_wp2
    go_ret
    exact ⟨Hb1.out, .inr ⟨Hr1.out, rfl⟩⟩
set_option maxRecDepth 100000 in
set_option maxHeartbeats 1000000 in
theorem readOrC (s : List UInt8) (h : ∀ s' : List UInt8, s'.length ≤ s.length → ReadC 56 3 s') : ReadC 50 4 s := by
  intro m b base w hrs hl hbase
  have hmf := run_makeFunc Tryd.prog
  have Hj := Lib.hid (readJoinedAnd 4 (by omega) s h m b base w hrs hl hbase)
  clear h hrs hl hbase
  go_enter Tryd.func50, Tryd.ntmps50
  go_wp2_with fail
  refine Hj.out.mono ?_
  rintro e w1 ⟨hb1, ⟨s1, m1, hr1, rfl, hrs1⟩ | ⟨hr1, rfl⟩⟩
  · have Hb1 := Lib.hid hb1
    have Hr1 := Lib.hid hr1
    have Hrs1 := Lib.hid hrs1
    clear hb1 hr1 hrs1
    go_wp2
    go_ret
    exact ⟨Hb1.out, .inl ⟨_, _, Hr1.out, rfl, Hrs1.out⟩⟩
  · have Hb1 := Lib.hid hb1
    have Hr1 := Lib.hid hr1
    clear hb1 hr1
    go_wp2
    go_ret
    exact ⟨Hb1.out, .inr ⟨Hr1.out, rfl⟩⟩
set_option maxRecDepth 100000 in
set_option maxHeartbeats 1000000 in
theorem readJoinedOr (k : Nat) (hk : 3 ≤ k ∧ k ≤ 5) (s : List UInt8) (h : ∀ s' : List UInt8, s'.length ≤ s.length → ReadC 50 (k - 1) s') (m : List (Int × Int)) (b base : Nat) (w : World) (hrs : RS w b base s m) (hl : m.length + s.length ≤ 1000) (hbase : base ≤ w.heap.size) :
    Calls Tryd.prog 49 #[.pointer (some ⟨b, 0, none⟩), .int .i64 k, .func (.func 50) #[.pointer (some ⟨b, 0, none⟩)] #[]] w fun e w' => Below b w w' ∧ ((∃ s' m', rdAt 26 10 k s m = some (s', m') ∧ e = .returned (.bool true) ∧ RS w' b base s' m') ∨ (rdAt 26 10 k s m = none ∧ e = .returned (.bool false))) := by
  have Hr := Lib.hid (rdAt_level (nl := 26) (nd := 10) hk s m)
  have H := Lib.hid h; clear h
  have hm1 : Mode (k - 1) := by unfold Mode; omega
  have Hjs := Lib.hid (implJoinSign k (by omega))
  obtain ⟨wo, rfl⟩ : ∃ wo : World, wo = w := ⟨_, rfl⟩
  go_enter Tryd.func49, Tryd.ntmps49
  go_wp2_with fail
  refine (H.out s (Nat.le_refl _) m b base _ hrs hl hbase).mono ?_
  rintro e w1 ⟨hb1, ⟨s1, m1, hr1, rfl, hrs1⟩ | ⟨hr1, rfl⟩⟩
  · have Hr1 : Hid (rdAt 26 10 k s m = rdAt 26 10 (k + 10) s1 m1) := by unfold Hid; rw [Hr.out, hr1]
    have hl1 := mlen_after hm1 hr1 hl
    have hs1 := (rdAt_shape hm1 hr1).1
    clear hrs hr1 hl
    go_wp2_with fail
    go_loopw [] (fun wr => Below b wo wr ∧ ∃ (s1 : List UInt8) (m1 : List (Int × Int)), RS wr b base s1 m1 ∧ m1.length + s1.length ≤ 1000 ∧ s1.length ≤ s.length ∧ Hid (rdAt 26 10 k s m = rdAt 26 10 (k + 10) s1 m1)) (fun wr => restOf wr b)
    case atStart => exact ⟨hb1, s1, m1, hrs1, hl1, hs1, Hr1⟩
    case round =>
      clear hb1 hrs1 hl1 hs1 Hr1
      obtain ⟨hb2, s2, m2, hrs2, hl2, hs2, Hr2⟩ := hrel
      have hbase2 : base ≤ wr.heap.size := by have := hb2.size; omega
      have Hb2 := Lib.hid hb2; clear hb2
      by_cases hh : s2.head? = some (sign k)
      · cases s2 with
        | nil => simp at hh
        | cons c r =>
          simp only [List.head?_cons, Option.some.injEq] at hh
          subst hh
          simp only [List.length_cons] at hl2 hs2
          have hr3 := Hr2.out
          rw [rdAt_loop hk, if_pos rfl] at hr3
          have Hr3 := Lib.hid hr3; clear hr3 Hr2
          have Htook := Lib.hid (tookYes (sign k) r (by omega) b base m2 _ hrs2)
          have Hms := Lib.hid hrs2.rest
          clear hrs2
          go_wp2_with fail
          refine (Hjs.out _).mono ?_
          rintro e w' ⟨rfl, rfl⟩
          go_wp2_with fail
          refine Htook.out.mono ?_
          rintro e w3 ⟨rfl, hrs3, hb3⟩
          have hbase3 : base ≤ w3.heap.size := by have := hb3.size; omega
          have Hb3 := Lib.hid (Hb2.out.trans hb3)
          clear hb3
          go_wp2_with fail
          refine (H.out r (by omega) m2 b base _ hrs3 (by omega) hbase3).mono ?_
          rintro e w4 ⟨hb4, ⟨s4, m4, hr4, rfl, hrs4⟩ | ⟨hr4, rfl⟩⟩
          · have hbase4 : base ≤ w4.heap.size := by have := hb4.size; omega
            have Hb4 := Lib.hid (Hb3.out.trans hb4)
            have hl4 := mlen_after hm1 hr4 (by omega)
            have hml4 : m4.length ≤ 1000 := by omega
            have hsh := rdAt_shape hm1 hr4
            have hs4 := hsh.2.1 (by omega)
            have hk4 := hsh.2.2.1
            clear hsh
            rw [show (rdAt 26 10 (k - 1) r m2) = some (s4, m4) from hr4] at Hr3
            have Hr4 : Hid (rdAt 26 10 k s m = rdAt 26 10 (k + 10) s4 (m4 ++ [((k : Int), 0)])) := Hr3
            clear hr4 hb4 hrs3 Hr3
            go_wp2_with fail
            refine (putMark k 0 b base s4 m4 _ hml4 hbase4 hrs4).mono ?_
            rintro e w5 ⟨rfl, hrs5, hb5⟩
            have Hb5 := Lib.hid (Hb4.out.trans hb5)
            have Hms5 := Lib.hid hrs5.rest
            have Hrs5 := Lib.hid hrs5
            clear hb5 hrs4 hrs5
            go_wp2
            go_roundw
            case rel => exact ⟨Hb5.out, s4, _, Hrs5.out, by rw [List.length_append]; simp only [List.length_cons, List.length_nil]; omega, by omega, Hr4⟩
            case measure => rw [Hms.out, Hms5.out]; simp only [List.length_cons]; omega
          · have Hb4 := Lib.hid (Hb3.out.trans hb4)
            rw [show (rdAt 26 10 (k - 1) r m2) = none from hr4] at Hr3
            have Hr4 : Hid (rdAt 26 10 k s m = none) := Hr3
            clear hr4 hb4 hrs3 Hr3
            go_wp2
            go_ret
            exact ⟨Hb4.out, .inr ⟨Hr4.out, rfl⟩⟩
      · have Hr3 : Hid (rdAt 26 10 k s m = some (s2, m2)) := by
          unfold Hid
          rw [Hr2.out]
          cases s2 with
          | nil => rw [rdAt_loop_nil hk]
          | cons c r => rw [rdAt_loop hk, if_neg (fun e => hh (by rw [e]; rfl))]
        have Htook := Lib.hid (tookNo (sign k) s2 hh (by omega) b base m2 _ hrs2)
        clear Hr2 hrs2 hh
        go_wp2_with fail
        refine (Hjs.out _).mono ?_
        rintro e w' ⟨rfl, rfl⟩
        go_wp2_with fail
        refine Htook.out.mono ?_
        rintro e w3 ⟨rfl, hrs3, hb3⟩
        have Hb3 := Lib.hid (Hb2.out.trans hb3)
        have Hrs3 := Lib.hid hrs3
        clear hb3 hrs3
        go_wp2
        go_ret
        exact ⟨Hb3.out, .inl ⟨_, _, Hr3.out, rfl, Hrs3.out⟩⟩
  · have Hb1 := Lib.hid hb1
    have Hr1 : Hid (rdAt 26 10 k s m = none) := by unfold Hid; rw [Hr.out, hr1]
    clear hb1 hr1 hrs hl
    go_wp2
    go_ret
    exact ⟨Hb1.out, .inr ⟨Hr1.out, rfl⟩⟩
set_option maxRecDepth 100000 in
set_option maxHeartbeats 1000000 in
theorem readSameC (s : List UInt8) (h : ∀ s' : List UInt8, s'.length ≤ s.length → ReadC 50 4 s') : ReadC 34 5 s := by
  intro m b base w hrs hl hbase
  have hmf := run_makeFunc Tryd.prog
  have Hj := Lib.hid (readJoinedOr 5 (by omega) s h m b base w hrs hl hbase)
  clear h hrs hl hbase
  go_enter Tryd.func34, Tryd.ntmps34
  go_wp2_with fail
  refine Hj.out.mono ?_
  rintro e w1 ⟨hb1, ⟨s1, m1, hr1, rfl, hrs1⟩ | ⟨hr1, rfl⟩⟩
  · have Hb1 := Lib.hid hb1
    have Hr1 := Lib.hid hr1
    have Hrs1 := Lib.hid hrs1
    clear hb1 hr1 hrs1
    go_wp2
    go_ret
    exact ⟨Hb1.out, .inl ⟨_, _, Hr1.out, rfl, Hrs1.out⟩⟩
  · have Hb1 := Lib.hid hb1
    have Hr1 := Lib.hid hr1
    clear hb1 hr1
    go_wp2
    go_ret
    exact ⟨Hb1.out, .inr ⟨Hr1.out, rfl⟩⟩
/-- all methods, by the length of what is left -/
theorem readAll : ∀ (n : Nat) (s : List UInt8), s.length ≤ n → ReadC 34 5 s ∧ ReadC 59 2 s := by
  have step : ∀ n, (∀ s : List UInt8, s.length < n → ReadC 34 5 s ∧ ReadC 59 2 s) → ∀ s : List UInt8, s.length ≤ n → ReadC 34 5 s ∧ ReadC 59 2 s := by
    intro n ih
    have hnot : ∀ s : List UInt8, s.length ≤ n → ReadC 59 2 s := fun s hs =>
      readNotC s (readHeldC s (fun r hr => (ih r (by omega)).1)) (fun r hr => (ih r (by omega)).2)
    have hand : ∀ s : List UInt8, s.length ≤ n → ReadC 56 3 s := fun s hs => readAndC s (fun s' hs' => hnot s' (by omega))
    have hor : ∀ s : List UInt8, s.length ≤ n → ReadC 50 4 s := fun s hs => readOrC s (fun s' hs' => hand s' (by omega))
    exact fun s hs => ⟨readSameC s (fun s' hs' => hor s' (by omega)), hnot s hs⟩
  intro n
  induction n with
  | zero => exact step 0 (fun s hs => by omega)
  | succ n ih => exact step (n + 1) (fun s hs => ih s (by omega))
theorem implReadSame (s : List UInt8) : ReadC 34 5 s := (readAll s.length s (Nat.le_refl _)).1
end Go.Proofs.YtmcdfbjmbelklaaDoor

/- Contracts of the reference's sets of faults and of its votes. -/
import Derived.Test.YtnkgbolgcmjadaaFaultS
namespace Go.Proofs.Ytnkgbolgcmjadaa
open Go.RowKit Go.Joins
theorem two32 {n : Nat} (h : n ≤ 5) : 2 ^ n ≤ 32 := (Nat.pow_le_pow_right (by decide) h : 2 ^ n ≤ 2 ^ 5)
theorem shl_5 {n N : Nat} (h : n ≤ 5) (hN : N = 2 ^ n) : wrap64 (2 ^ n) = (N : Int) := by
  have h : n = 0 ∨ n = 1 ∨ n = 2 ∨ n = 3 ∨ n = 4 ∨ n = 5 := by omega
  rw [hN]
  rcases h with rfl | rfl | rfl | rfl | rfl | rfl <;> decide +kernel
theorem shl_5k {n N : Nat} (h : n ≤ 5) (hN : N = 2 ^ n) : IntKind.i64.wrap (2 ^ n) = (N : Int) := by
  have h : n = 0 ∨ n = 1 ∨ n = 2 ∨ n = 3 ∨ n = 4 ∨ n = 5 := by omega
  rw [hN]
  rcases h with rfl | rfl | rfl | rfl | rfl | rfl <;> decide +kernel
theorem fitsV_no {s : List (List Int)} {x : Int} (h : synOk s = false) : fitsV s x = false := by unfold fitsV; rw [h]; rfl
theorem fitsV_out {s : List (List Int)} {x : Int} (h : ¬ (0 ≤ x ∧ x < 2 ^ s.length)) : fitsV s x = false := by unfold fitsV; rw [decide_eq_false h]; simp
theorem fitsV_in {s : List (List Int)} {X : Nat} (hs : synOk s = true) (h : X < 2 ^ s.length) : fitsV s (X : Int) = fitsN s X := by
  unfold fitsV
  rw [hs, decide_eq_true (show 0 ≤ (X : Int) ∧ (X : Int) < 2 ^ s.length from ⟨by omega, by exact_mod_cast h⟩), Int.toNat_natCast]; rfl
theorem setsN_no {s : List (List Int)} {m : Int} (h : synOk s = false) : setsN s m = [] := by unfold setsN; rw [h]; rfl
theorem setsN_yes {s : List (List Int)} {m : Int} (h : synOk s = true) : setsN s m = setsF s m (2 ^ s.length) := by unfold setsN; rw [h]; rfl
theorem setsF_zero (s : List (List Int)) (m : Int) : setsF s m 0 = [] := rfl
theorem setsF_yes {s : List (List Int)} {m : Int} {N : Nat} (h1 : (heads N : Int) ≤ m) (h2 : fitsN s N = true) : setsF s m (N + 1) = setsF s m N ++ [N] := by
  rw [setsF_succ, decide_eq_true h1, h2]; rfl
theorem setsF_no1 {s : List (List Int)} {m : Int} {N : Nat} (h1 : ¬ (heads N : Int) ≤ m) : setsF s m (N + 1) = setsF s m N := by
  rw [setsF_succ, decide_eq_false h1]; simp
theorem setsF_no2 {s : List (List Int)} {m : Int} {N : Nat} (h2 : fitsN s N = false) : setsF s m (N + 1) = setsF s m N := by
  rw [setsF_succ, h2]; simp
theorem setsF_len (s : List (List Int)) (m : Int) (N : Nat) : (setsF s m N).length ≤ N := by
  have := List.length_filter_le (fun X => decide ((heads X : Int) ≤ m) && fitsN s X) (List.range N)
  rw [List.length_range] at this
  exact this
theorem vals_snoc (l : List Nat) (x : Nat) : vals (l ++ [x]) = vals l ++ [.int .i64 x] := by simp [vals]
theorem vals_getD (l : List Nat) {j : Nat} (hj : j < l.length) : (vals l)[j]? = some (.int .i64 (l.getD j 0 : Nat)) := by simp [vals, List.getD, hj]
theorem below_drewN9 {B : Nat} {a w : World} (h : Below B a w) (k : Nat) : Below B a (w.drewN k) := ⟨h.os, h.tape, h.output, h.size, h.block⟩
theorem rdRows_drewN {w : World} {B : Nat} {v : Value} {rs : List RW} (h : RdRows w B v rs) (k : Nat) : RdRows (w.drewN k) B v rs := h
theorem own_drewN9 {w : World} {base size n : Nat} {e : TypeId} {v : Value} {xs : List Value} (h : w.ownsRow base e size v n xs) (k : Nat) : (w.drewN k).ownsRow base e size v n xs := h
/-- what a call hands back that returns numbers in memory of its own -/
def OutN (l : List Nat) (w : World) (e : Ending) (w' : World) : Prop := ∃ v, e = .returned v ∧ w'.ownsRow w.heap.size 3 1 v l.length (vals l) ∧ Below w.heap.size w w'
theorem onlyF_eq (s : List (List Int)) : onlyFOk s = decide ((setsN s (sureN s.length)).length = 1) := rfl
theorem votesF_zero (s : List (List Int)) (u : Nat) : votesF s u 0 = 0 := rfl
theorem votesF_succ (s : List (List Int)) (u k : Nat) : votesF s u (k + 1) = votesF s u k + toldE s k u := rfl
theorem votesN_no {s : List (List Int)} {u : Int} (h : synOk s = false) : votesN s u = -1 := by unfold votesN; rw [h]; rfl
theorem votesN_out {s : List (List Int)} {u : Int} (h : ¬ (0 ≤ u ∧ u < s.length)) : votesN s u = -1 := by unfold votesN; rw [decide_eq_false h]; simp
theorem votesN_yes {s : List (List Int)} {U : Nat} (hs : synOk s = true) (h : U < s.length) : votesN s (U : Int) = votesF s U s.length := by
  unfold votesN
  rw [hs, decide_eq_true (show 0 ≤ (U : Int) ∧ (U : Int) < s.length by omega), Int.toNat_natCast]; rfl
theorem sets_small9 (s : List (List Int)) (m : Int) : (setsN s m).length ≤ 32 := by
  cases hs : synOk s with
  | false => rw [setsN_no hs]; simp
  | true =>
    obtain ⟨_, _, h5⟩ := synOk_iff.1 hs
    rw [setsN_yes hs]
    have h1 := setsF_len s m (2 ^ s.length)
    have h2 := two32 h5
    omega
theorem sets_range9 (s : List (List Int)) (m : Int) : ∀ j, (setsN s m).getD j 0 ≤ 32 := by
  intro j
  by_cases hj : j < (setsN s m).length
  · cases hs : synOk s with
    | false => rw [setsN_no hs] at hj; simp at hj
    | true =>
      obtain ⟨_, _, h5⟩ := synOk_iff.1 hs
      have h2 := two32 h5
      have h3 : (setsN s m).getD j 0 ∈ setsN s m := by
        rw [show (setsN s m).getD j 0 = (setsN s m)[j] by simp [List.getD, hj]]
        exact List.getElem_mem hj
      have := ((setsN_mem hs).1 h3).1
      omega
  · simp [List.getD, show (setsN s m).length ≤ j by omega]
attribute [local irreducible] synOk rowOk entOk fitsN fitsK toldE bitI fitsV setsN setsF votesF votesN heads
set_option maxRecDepth 100000 in
set_option maxHeartbeats 4000000 in
theorem specFitsFaults (rs : List RW) (x : Int) (B : Nat) (v : Value) (w : World) (hr : RdRows w B v rs) :
    Calls Try.prog 16 #[v, .int .i64 x] w fun e w' => e = .returned (.bool (fitsV (rs.map (·.2)) x)) ∧ ∃ nd, w.drewN nd = w' := by
  have Hso := Lib.hid (specSyndromeOk rs B v w hr)
  cases hs : synOk (rs.map (·.2)) with
  | false =>
    have Hf := Lib.hid (fitsV_no (x := x) hs)
    rw [hs] at Hso
    clear hs hr
    go_enter Try.func16, Try.ntmps16
    go_wp2_with fail
    refine Hso.out.mono ?_
    rintro e w' ⟨rfl, rfl⟩
    go_wp2
    go_ret
    exact ⟨by rw [Hf.out]; rfl, 0, rfl⟩
  | true =>
    obtain ⟨hn5, hn1, _⟩ := syn_rows hs
    obtain ⟨N, hN⟩ : ∃ N, N = 2 ^ rs.length := ⟨_, rfl⟩
    have hlen : (rs.map (·.2)).length = rs.length := by simp
    have hN32 : N ≤ 32 := by rw [hN]; exact two32 hn5
    have hsh := shl_5 hn5 hN
    have hshk := shl_5k hn5 hN
    have hmn : min rs.length 64 = rs.length := by omega
    have e2 : ((2 : Int) ^ rs.length) = (N : Int) := by rw [hN]; simp
    have Hout : Hid (¬ (0 ≤ x ∧ x ≤ (N : Int) - 1) → fitsV (rs.map (·.2)) x = false) := fun h => fitsV_out (fun h' => by
      rw [hlen, e2] at h'
      exact h ⟨h'.1, by omega⟩)
    have Hinn := Lib.hid (fun (X : Nat) (h : X < N) => fitsV_in hs (X := X) (by rw [hlen, ← hN]; exact h))
    have Hfit := Lib.hid (fun X (hX : X < 64) => specFits rs X hs hX B v w hr)
    obtain ⟨ao, cap, rfl⟩ : ∃ ao cap, v = .slice ao rs.length cap := by obtain ⟨a, c, h, _⟩ := hr; exact ⟨a, c, h⟩
    rw [hs] at Hso
    clear hs hr hN hlen e2
    generalize rs.map (·.2) = s at *
    generalize rs.length = n at *
    by_cases hx : 0 ≤ x ∧ x ≤ (N : Int) - 1
    · obtain ⟨X, rfl⟩ := Int.eq_ofNat_of_zero_le hx.1
      have Hin : Hid (true = decide (0 ≤ (X : Int) ∧ (X : Int) ≤ (N : Int) - 1)) := (decide_eq_true hx).symm
      have hXN : X < N := by omega
      have Hv := Lib.hid (Hinn.out X hXN)
      have Hc := Lib.hid (Hfit.out X (by omega))
      clear hx Hinn Hout Hfit
      go_enter Try.func16, Try.ntmps16
      go_wp2_with fail
      refine Hso.out.mono ?_
      rintro e w' ⟨rfl, rfl⟩
      go_wp2_with fail
      refine (specL1In9 _ _ _ true Hin _).mono ?_
      rintro e w' ⟨rfl, rfl⟩
      go_wp2_with fail
      refine Hc.out.mono ?_
      rintro e w' ⟨rfl, nd, rfl⟩
      go_wp2
      go_ret
      exact ⟨by first | (rw [Hv.out]; done) | (rw [Hv.out]; rfl) | (rw [Hv.out]; simp), nd, rfl⟩
    · have Hin : Hid (false = decide (0 ≤ x ∧ x ≤ (N : Int) - 1)) := (decide_eq_false hx).symm
      have Hv := Lib.hid (Hout.out hx)
      clear hx Hinn Hout Hfit
      go_enter Try.func16, Try.ntmps16
      go_wp2_with fail
      refine Hso.out.mono ?_
      rintro e w' ⟨rfl, rfl⟩
      go_wp2_with fail
      refine (specL1In9 _ _ _ false Hin _).mono ?_
      rintro e w' ⟨rfl, rfl⟩
      go_wp2
      go_ret
      exact ⟨by rw [Hv.out]; rfl, 0, rfl⟩
set_option maxRecDepth 100000 in
set_option maxHeartbeats 4000000 in
theorem specFaultSets (rs : List RW) (m : Int) (B : Nat) (v : Value) (w : World) (hr : RdRows w B v rs) (hB : B ≤ w.heap.size) :
    Calls Try.prog 21 #[v, .int .i64 m] w (OutN (setsN (rs.map (·.2)) m) w) := by
  obtain ⟨i0, hi, hz0, hz1, hz2⟩ := info_parts Try.info3
  have Hi := Lib.hid hi; clear hi
  have Hz0 := Lib.hid hz0; clear hz0
  have Hz1 := Lib.hid hz1; clear hz1
  have Hz2 := Lib.hid hz2; clear hz2
  have Hso := Lib.hid (fun w h => specSyndromeOk rs B v w h)
  have Hr := Lib.hid hr
  cases hs : synOk (rs.map (·.2)) with
  | false =>
    have Hf := Lib.hid (setsN_no (m := m) hs)
    rw [hs] at Hso
    clear hs hr
    obtain ⟨wo, rfl⟩ : ∃ wo : World, wo = w := ⟨_, rfl⟩
    go_enter Try.func21, Try.ntmps21
    go_wp2
    go_loopw [5, 6] (fun v i wr => i = .int .i64 (0 : Nat) ∧ wr.ownsRow wo.heap.size 3 1 v 0 [] ∧ Below wo.heap.size wo wr) (fun _ _ _ => 0)
    case atStart => exact ⟨rfl, World.ownsRow_made _ _ 0 (Nat.le_refl _) (by unfold maxLen; omega) rfl, (Below.refl _ _).alloc (Nat.le_refl _) _⟩
    case round =>
      obtain ⟨rfl, hown, hbr⟩ := hrel
      have Hr1 := Lib.hid (Hr.out.below (w' := wr) (fun q hq => hbr.block q (by omega)))
      have Hown := Lib.hid hown
      have Hbr := Lib.hid hbr
      clear hown hbr
      go_wp2_with fail
      refine (Hso.out _ Hr1.out).mono ?_
      rintro e w' ⟨rfl, rfl⟩
      go_wp2
      go_ret
      exact ⟨_, rfl, by rw [Hf.out]; exact Hown.out, Hbr.out⟩
  | true =>
    obtain ⟨hn5, hn1, _⟩ := syn_rows hs
    obtain ⟨N, hN⟩ : ∃ N, N = 2 ^ rs.length := ⟨_, rfl⟩
    have hlen : (rs.map (·.2)).length = rs.length := by simp
    have hN32 : N ≤ 32 := by rw [hN]; exact two32 hn5
    have hsh := shl_5 hn5 hN
    have hshk := shl_5k hn5 hN
    have hmn : min rs.length 64 = rs.length := by omega
    have Hf := Lib.hid (setsN_yes (m := m) hs)
    rw [hlen, ← hN] at Hf
    have Hfit := Lib.hid (fun X (hX : X < 64) w h => specFits rs X hs hX B v w h)
    obtain ⟨ao, cap, rfl⟩ : ∃ ao cap, v = .slice ao rs.length cap := by obtain ⟨a, c, h, _⟩ := hr; exact ⟨a, c, h⟩
    rw [hs] at Hso
    clear hs hr hN hlen
    generalize rs.map (·.2) = s at *
    have HF0 : Hid (setsF s m 0 = []) := setsF_zero s m
    have Hyes := Lib.hid (fun X h1 h2 => setsF_yes (s := s) (m := m) (N := X) h1 h2)
    have Hno1 := Lib.hid (fun X h1 => setsF_no1 (s := s) (m := m) (N := X) h1)
    have Hno2 := Lib.hid (fun X h2 => setsF_no2 (s := s) (m := m) (N := X) h2)
    have Hlen := Lib.hid (fun X => setsF_len s m X)
    generalize hnn : rs.length = n at *
    clear hnn
    obtain ⟨wo, rfl⟩ : ∃ wo : World, wo = w := ⟨_, rfl⟩
    go_enter Try.func21, Try.ntmps21
    go_wp2
    go_loopw [5, 6] (fun v i wr => ∃ X : Nat, X ≤ N ∧ i = .int .i64 X ∧ wr.ownsRow wo.heap.size 3 1 v (setsF s m X).length (vals (setsF s m X)) ∧ Below wo.heap.size wo wr) (fun _ i _ => N - (intOf i).toNat)
    case atStart => exact ⟨0, Nat.zero_le _, rfl, by rw [HF0.out]; exact World.ownsRow_made _ _ 0 (Nat.le_refl _) (by unfold maxLen; omega) rfl, (Below.refl _ _).alloc (Nat.le_refl _) _⟩
    case round =>
      obtain ⟨X, hX, rfl, hown, hbr⟩ := hrel
      have Hr1 := Lib.hid (Hr.out.below (w' := wr) (fun q hq => hbr.block q (by omega)))
      have hll := Hlen.out X
      have Hbr := Lib.hid hbr
      have hsr := hbr.size
      clear hbr
      by_cases hlt : X < N
      · have Hy := Lib.hid (Hyes.out X)
        have Hn1 := Lib.hid (Hno1.out X)
        have Hn2 := Lib.hid (Hno2.out X)
        have Hc := Lib.hid (fun w h => Hfit.out X (by omega) w h)
        have hls : (setsF s m (X + 1)).length ≤ X + 1 := Hlen.out (X + 1)
        have Hh := Lib.hid (fun w => specHeads X (by omega) w)
        by_cases hm : (heads X : Int) ≤ m
        · cases hf : fitsN s X with
          | true =>
            have hs1 := Hy.out hm hf
            rw [hf] at Hc
            generalize setsF s m X = L at *
            generalize heads X = hd at *
            have Hs1 := Lib.hid hs1
            have Hl' := Lib.hid hls
            clear Hy Hn1 Hn2 hf hs1 hls
            go_wp2_with fail
            refine (Hso.out _ Hr1.out).mono ?_
            rintro e w' ⟨rfl, rfl⟩
            go_wp2_with fail
            refine (Hh.out _).mono ?_
            rintro e w' ⟨rfl, rfl⟩
            go_wp2_with fail
            refine (Hc.out _ Hr1.out).mono ?_
            rintro e w' ⟨rfl, nd, rfl⟩
            go_wp2_with (first
              | (at_builtin
                 refine wpList_append_own _ rfl (.tmp 28) (.tmp 30) 26 rfl wo.heap.size 3 i0 (.int .i64 0) 1 8 Try.underlying26 Hi.out Hz0.out Hz1.out Hz2.out rfl (by decide) _ _ _ rfl ((own_drewN9 hown nd).alloc _) ⟨_, 0, none⟩ 1 1 [.int .i64 X] rfl rfl (cell_one_new _ _ _) (by simp [Value.oneCell']) (by unfold maxLen; omega) (by omega) (by simp; omega) ?_
                 go_must (intro v' w1 hown' hgrow _
                          have Hb1 := Lib.hid (((below_drewN9 Hbr.out nd).alloc (show wo.heap.size ≤ (wr.drewN nd).heap.size by exact hsr) (.cells #[.int .i64 X] 3)).grown hgrow (by simp; omega) (fun k hk => (hown.lt k hk).1))
                          have Ho1 : Hid (w1.ownsRow wo.heap.size 3 1 v' (setsF s m (X + 1)).length (vals (setsF s m (X + 1)))) := by
                            unfold Hid; rw [Hs1.out, vals_snoc]; simpa using hown'
                          clear hown' hgrow hown))
              | fail)
            go_roundw
            case rel => exact ⟨X + 1, by omega, by go_num, Ho1.out, Hb1.out⟩
            case measure => simp [intOf]; omega
          | false =>
            have hs1 := Hn2.out hf
            rw [hf] at Hc
            have Hown : Hid (wr.ownsRow wo.heap.size 3 1 u5 (setsF s m (X + 1)).length (vals (setsF s m (X + 1)))) := by unfold Hid; rw [hs1]; exact hown
            generalize setsF s m X = L at *
            generalize heads X = hd at *
            clear Hy Hn1 Hn2 hf hs1 hls hown
            go_wp2_with fail
            refine (Hso.out _ Hr1.out).mono ?_
            rintro e w' ⟨rfl, rfl⟩
            go_wp2_with fail
            refine (Hh.out _).mono ?_
            rintro e w' ⟨rfl, rfl⟩
            go_wp2_with fail
            refine (Hc.out _ Hr1.out).mono ?_
            rintro e w' ⟨rfl, nd, rfl⟩
            go_wp2
            go_roundw
            case rel => exact ⟨X + 1, by omega, by go_num, own_drewN9 Hown.out nd, below_drewN9 Hbr.out nd⟩
            case measure => simp [intOf]; omega
        · have hs1 := Hn1.out (by omega)
          have Hown : Hid (wr.ownsRow wo.heap.size 3 1 u5 (setsF s m (X + 1)).length (vals (setsF s m (X + 1)))) := by unfold Hid; rw [hs1]; exact hown
          generalize setsF s m X = L at *
          generalize heads X = hd at *
          have hm' : m < (hd : Int) := by omega
          clear Hy Hn1 Hn2 hm hs1 hls hown Hc
          go_wp2_with fail
          refine (Hso.out _ Hr1.out).mono ?_
          rintro e w' ⟨rfl, rfl⟩
          go_wp2_with fail
          refine (Hh.out _).mono ?_
          rintro e w' ⟨rfl, rfl⟩
          go_wp2
          go_roundw
          case rel => exact ⟨X + 1, by omega, by go_num, Hown.out, Hbr.out⟩
          case measure => simp [intOf]; omega
      · obtain rfl : X = N := Nat.le_antisymm hX (Nat.le_of_not_lt hlt)
        have Hown := Lib.hid hown
        clear hown
        go_wp2_with fail
        refine (Hso.out _ Hr1.out).mono ?_
        rintro e w' ⟨rfl, rfl⟩
        go_wp2
        go_ret
        exact ⟨_, rfl, by rw [Hf.out]; exact Hown.out, Hbr.out⟩
set_option maxHeartbeats 1000000 in
theorem specSureMost (n : Int) (w : World) :
    Calls Try.prog 27 #[.int .i64 n] w fun e w' => e = .returned (.int .i64 (sureN n)) ∧ w = w' := by
  by_cases h : 1 ≤ n ∧ n ≤ 5
  · have Hin : Hid (true = decide (1 ≤ n ∧ n ≤ 5)) := (decide_eq_true h).symm
    have Hv : Hid (sureN n = (n - 1) / 2) := by unfold Hid sureN; rw [if_pos h]
    obtain ⟨h1, h5⟩ := h
    go_enter Try.func27, Try.ntmps27
    go_wp2_with fail
    refine (specL1In9 _ _ _ true Hin _).mono ?_
    rintro e w' ⟨rfl, rfl⟩
    go_wp2
    go_ret
    exact ⟨ret_int (by first | (rw [Hv.out]; done) | (rw [Hv.out]; go_num)), rfl⟩
  · have Hin : Hid (false = decide (1 ≤ n ∧ n ≤ 5)) := (decide_eq_false h).symm
    have Hv : Hid (sureN n = -1) := by unfold Hid sureN; rw [if_neg h]
    clear h
    go_enter Try.func27, Try.ntmps27
    go_wp2_with fail
    refine (specL1In9 _ _ _ false Hin _).mono ?_
    rintro e w' ⟨rfl, rfl⟩
    go_wp2
    go_ret
    exact ⟨ret_int (by rw [Hv.out]), rfl⟩
set_option maxRecDepth 100000 in
set_option maxHeartbeats 2000000 in
theorem specOnlyFaults (rs : List RW) (B : Nat) (v : Value) (w : World) (hr : RdRows w B v rs) (hB : B ≤ w.heap.size) :
    Calls Try.prog 30 #[v] w fun e w' => e = .returned (.tuple #[.int .i64 (onlyFN (rs.map (·.2))), .bool (onlyFOk (rs.map (·.2)))]) ∧ Below w.heap.size w w' := by
  have Hc := Lib.hid (specFaultSets rs (sureN rs.length) B v w hr hB)
  have Hyes : Hid (onlyFOk (rs.map (·.2)) = true → onlyFN (rs.map (·.2)) = ((setsN (rs.map (·.2)) (sureN rs.length)).getD 0 0 : Nat)) := fun h => by
    unfold onlyFN; rw [if_pos h, List.length_map]
  have Hno : Hid (onlyFOk (rs.map (·.2)) = false → onlyFN (rs.map (·.2)) = 0) := fun h => by
    unfold onlyFN; rw [if_neg (by rw [h]; simp)]
  have Heq : Hid (onlyFOk (rs.map (·.2)) = decide ((setsN (rs.map (·.2)) (sureN rs.length)).length = 1)) := by
    unfold Hid; rw [onlyF_eq, List.length_map]
  have Hss := Lib.hid (fun w => specSureMost (rs.length : Int) w)
  obtain ⟨ao, cap, rfl⟩ : ∃ ao cap, v = .slice ao rs.length cap := by obtain ⟨a, c, h, _⟩ := hr; exact ⟨a, c, h⟩
  clear hr
  generalize setsN (rs.map (·.2)) (sureN rs.length) = L at *
  generalize onlyFN (rs.map (·.2)) = FN at *
  generalize onlyFOk (rs.map (·.2)) = FO at *
  generalize sureN rs.length = sn at *
  go_enter Try.func30, Try.ntmps30
  go_wp2_with fail
  refine (Hss.out _).mono ?_
  rintro e w' ⟨rfl, rfl⟩
  go_wp2_with fail
  refine Hc.out.mono ?_
  rintro e w2 ⟨v2, rfl, ho, hb⟩
  have Hb := Lib.hid hb
  have hrd := RdInts.of_own (zs := nums L) (by rw [show (nums L).length = L.length by simp [nums], ← vals_nums]; exact ho)
  have hnl : (nums L).length = L.length := by simp [nums]
  obtain ⟨a2, c2, hv2, hl2, hm2, hcell⟩ := hrd
  rw [hnl] at hv2 hl2 hcell
  unfold maxLen at hm2
  by_cases h1 : L.length = 1
  · have hfo : FO = true := by rw [Heq.out]; exact decide_eq_true h1
    have Hfn := Lib.hid (Hyes.out hfo)
    obtain ⟨b, off, rfl, _, hc1⟩ := hcell 0 (by omega)
    rw [h1] at hv2 hl2
    subst hv2
    have hX : (nums L).getD 0 0 = ((L.getD 0 0 : Nat) : Int) := by
      obtain ⟨X, rfl⟩ := List.length_eq_one_iff.1 h1
      rfl
    rw [hX, Nat.add_zero] at hc1
    generalize L.getD 0 0 = X at *
    subst hfo
    clear ho hb Heq Hyes Hno hcell h1 hnl hX Hc
    go_wp2
    go_ret2
    exact ⟨by rw [Hfn.out]; rfl, Hb.out⟩
  · have hfo : FO = false := by rw [Heq.out]; exact decide_eq_false h1
    have Hfn := Lib.hid (Hno.out hfo)
    have hne : ((L.length : Int) != 1) = true := by rw [bne_iff_ne]; omega
    subst hv2
    subst hfo
    generalize L.length = nl at *
    clear ho hb Heq Hyes Hno hcell hnl Hc
    go_wp2
    go_ret2
    exact ⟨by rw [Hfn.out]; rfl, Hb.out⟩
set_option maxRecDepth 100000 in
set_option maxHeartbeats 2000000 in
theorem specVotesAgainst (rs : List RW) (u : Int) (B : Nat) (v : Value) (w : World) (hr : RdRows w B v rs) :
    Calls Try.prog 33 #[v, .int .i64 u] w fun e w' => e = .returned (.int .i64 (votesN (rs.map (·.2)) u)) ∧ w = w' := by
  have Hso := Lib.hid (specSyndromeOk rs B v w hr)
  cases hs : synOk (rs.map (·.2)) with
  | false =>
    have Hf := Lib.hid (votesN_no (u := u) hs)
    rw [hs] at Hso
    clear hs hr
    go_enter Try.func33, Try.ntmps33
    go_wp2_with fail
    refine Hso.out.mono ?_
    rintro e w' ⟨rfl, rfl⟩
    go_wp2
    go_ret
    exact ⟨ret_int (by rw [Hf.out]), rfl⟩
  | true =>
    obtain ⟨hn5, hn1, hlens⟩ := syn_rows hs
    have hlen : (rs.map (·.2)).length = rs.length := by simp
    have Hget := Lib.hid (fun j (hj : j < rs.length) => hr.get hj)
    have Hlens := Lib.hid hlens
    have Htold := Lib.hid (told_rows rs)
    have Hrange : Hid (∀ k U, k < rs.length → U < rs.length → 0 ≤ toldE (rs.map (·.2)) k U ∧ toldE (rs.map (·.2)) k U ≤ 1) := fun k U hk hU => by
      have := ((synOk_iff.1 hs).1 k (by rw [hlen]; exact hk)).2 U (by rw [hlen]; exact hU)
      exact this.1
    rw [hs] at Hso
    by_cases hu : 0 ≤ u ∧ u ≤ (rs.length : Int) - 1
    · obtain ⟨U, rfl⟩ := Int.eq_ofNat_of_zero_le hu.1
      have hU : U < rs.length := by omega
      have Hin : Hid (true = decide (0 ≤ (U : Int) ∧ (U : Int) ≤ (rs.length : Int) - 1)) := (decide_eq_true hu).symm
      have Hf := Lib.hid (votesN_yes hs (by rw [hlen]; exact hU))
      rw [hlen] at Hf
      obtain ⟨ao, cap, rfl, hl, hm, _, hc0⟩ := hr
      have Hc := Lib.hid hc0
      unfold maxLen at hm
      clear hs hlens hc0 hu
      generalize rs.map (·.2) = s at *
      have Hvs := Lib.hid (fun k => votesF_succ s U k)
      have Hv0 : Hid (votesF s U 0 = 0) := votesF_zero s U
      generalize hn : rs.length = n at *
      clear hn hlen
      go_enter Try.func33, Try.ntmps33
      go_wp2_with fail
      refine Hso.out.mono ?_
      rintro e w' ⟨rfl, rfl⟩
      go_wp2_with fail
      refine (specL1In9 _ _ _ true Hin _).mono ?_
      rintro e w' ⟨rfl, rfl⟩
      go_wp2
      go_loop [5, 6] (fun q i => ∃ (k : Nat) (z : Int), k ≤ n ∧ i = .int .i64 k ∧ q = .int .i64 z ∧ Hid (z = votesF s U k) ∧ 0 ≤ z ∧ z ≤ k) (fun _ i => n - (intOf i).toNat)
      case atStart => exact ⟨0, 0, Nat.zero_le _, rfl, rfl, Hv0.out.symm, by omega, by omega⟩
      case round =>
        obtain ⟨k, z, hk, rfl, rfl, hz, hz0, hz1⟩ := hrel
        by_cases hlt : k < n
        · obtain ⟨b, off, rfl, _, hcell⟩ := Hc.out k hlt
          have hrk := Hget.out k hlt
          have hlk := Hlens.out k hlt
          have htk := Htold.out k U
          have hrg := Hrange.out k U hlt hU
          have hvs := Hvs.out k
          generalize rs.getD k rw0 = q at *
          obtain ⟨u2, zs⟩ := q
          obtain ⟨ao2, cap2, hu2, hzl, hzm, hzc⟩ := hrk
          dsimp only at hcell hu2 hzl hzc hlk htk
          subst hu2
          unfold maxLen at hzm
          obtain ⟨b2, off2, rfl, _, hc2⟩ := hzc U (by omega)
          rw [← htk] at hc2
          rw [hlk] at hcell hzl
          generalize toldE s k U = t at *
          have Hvs2 : Hid (z + t = votesF s U (k + 1)) := by unfold Hid; rw [hvs, hz.out]
          clear hvs hzc hlk htk
          go_wp2
          go_round
          case rel => exact ⟨k + 1, z + t, by omega, by go_num, rfl, Hvs2, by omega, by omega⟩
          case measure => simp [intOf]; omega
        · obtain rfl : k = n := Nat.le_antisymm hk (Nat.le_of_not_lt hlt)
          go_wp2
          go_ret
          exact ⟨ret_int (by rw [Hf.out, hz.out]), rfl⟩
    · have Hin : Hid (false = decide (0 ≤ u ∧ u ≤ (rs.length : Int) - 1)) := (decide_eq_false hu).symm
      have Hf := Lib.hid (votesN_out (s := rs.map (·.2)) (u := u) (by rw [hlen]; omega))
      obtain ⟨ao, cap, rfl⟩ : ∃ ao cap, v = .slice ao rs.length cap := by obtain ⟨a, c, h, _⟩ := hr; exact ⟨a, c, h⟩
      clear hs hlens hu hr
      go_enter Try.func33, Try.ntmps33
      go_wp2_with fail
      refine Hso.out.mono ?_
      rintro e w' ⟨rfl, rfl⟩
      go_wp2_with fail
      refine (specL1In9 _ _ _ false Hin _).mono ?_
      rintro e w' ⟨rfl, rfl⟩
      go_wp2
      go_ret
      exact ⟨ret_int (by rw [Hf.out]), rfl⟩
end Go.Proofs.Ytnkgbolgcmjadaa

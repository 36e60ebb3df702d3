/- Contracts of the mirrored term, in the program and in the reference model. -/
import Derived.Test.YtpccldbcmanhdaaDrawP
namespace Go.Proofs.Ytpccldbcmanhdaa
open Go.RowKit Go.Joins

/-- one mark mirrored -/
def mirM (p : Int) (m : Int × Int) : List (Int × Int) := if m.1 = 0 then [m, (2, 0)] else if m.1 = 1 then [(1, p + 1 - m.2), (2, 0)] else [m]
def mirN (p : Int) (ms : List (Int × Int)) : List (Int × Int) := ms.flatMap (mirM p)
theorem mirN_take (p : Int) (ms : List (Int × Int)) (k : Nat) (h : k < ms.length) : mirN p (ms.take (k + 1)) = mirN p (ms.take k) ++ mirM p (ms.getD k (0, 0)) := by
  rw [take_snoc (0, 0) ms k h]; simp [mirN]
theorem mirM_len (p : Int) (m : Int × Int) : (mirM p m).length ≤ 2 := by
  unfold mirM; repeat' split
  all_goals simp
theorem mirN_len (p : Int) (ms : List (Int × Int)) : (mirN p ms).length ≤ 2 * ms.length := by
  induction ms with
  | nil => simp [mirN]
  | cons m r ih =>
    have := mirM_len p m
    simp only [mirN, List.flatMap_cons, List.length_append, List.length_cons] at ih ⊢
    omega
/-- what the mirrored term is: its marks, and whether it is told -/
def mirOk (p : Int) (ms : List (Int × Int)) : Bool := termOk p ms && decide ((mirN p ms).length ≤ 15)
def mirV (p : Int) (ms : List (Int × Int)) : List (Int × Int) := if mirOk p ms = true then mirN p ms else []
theorem mirV_len (p : Int) (ms : List (Int × Int)) : (mirV p ms).length ≤ 15 := by
  unfold mirV mirOk
  split
  · rename_i h
    rw [Bool.and_eq_true, decide_eq_true_eq] at h
    exact h.2
  · simp
theorem mir_I64 {p : Int} {ms : List (Int × Int)} (h : termOk p ms = true) : I64s (mirN p ms) := by
  intro m hm
  obtain ⟨x, hx, hmx⟩ := List.mem_flatMap.1 hm
  have hk := termOk_mkOk h x hx
  have hp := (termOk_iff.1 h).1
  unfold mkOk at hk
  rw [decide_eq_true_eq] at hk
  unfold mirM at hmx
  split at hmx
  · simp at hmx
    rcases hmx with rfl | rfl
    · exact ⟨I64_small (by omega) (by omega), I64_small (by omega) (by omega)⟩
    · exact ⟨I64_small (by omega) (by omega), I64_small (by omega) (by omega)⟩
  · split at hmx
    · simp at hmx
      rcases hmx with rfl | rfl
      · exact ⟨I64_small (by omega) (by omega), I64_small (by omega) (by omega)⟩
      · exact ⟨I64_small (by omega) (by omega), I64_small (by omega) (by omega)⟩
    · simp at hmx
      subst hmx
      exact ⟨I64_small (by omega) (by omega), I64_small (by omega) (by omega)⟩
theorem mirV_I64 (p : Int) (ms : List (Int × Int)) : I64s (mirV p ms) := by
  unfold mirV mirOk
  split
  · rename_i h
    rw [Bool.and_eq_true] at h
    exact mir_I64 h.1
  · intro m hm; simp at hm
theorem mirN_nil (p : Int) : mirN p [] = [] := rfl
theorem mirM0 (p x : Int) : mirM p (0, x) = [(0, x), (2, 0)] := rfl
theorem mirM1 (p x : Int) : mirM p (1, x) = [(1, p + 1 - x), (2, 0)] := rfl
theorem mirMe {p k x : Int} (h : 2 ≤ k) : mirM p (k, x) = [(k, x)] := by unfold mirM; rw [if_neg (by simp; omega), if_neg (by simp; omega)]
theorem taken_pos {k : Int} (h : 2 ≤ k ∧ k ≤ 5) : (taken k == 0) = false := by
  rw [beq_eq_false_iff_ne]; unfold taken; repeat' split
  all_goals omega
theorem taken_zero {k : Int} (h : k = 0 ∨ k = 1) : (taken k == 0) = true := by
  rcases h with rfl | rfl <;> rfl
attribute [local irreducible] mirN

theorem own_cat1 {w : World} {base L : Nat} {v : Value} {xs : List (Int × Int)} {m : Int × Int} (hl : xs.length = L) (h : w.ownsRow base TM 2 v (L + 1) (mcells xs ++ mcells [m])) : w.ownsRow base TM 2 v (xs ++ [m]).length (mcells (xs ++ [m])) := by
  rw [mcells_append, List.length_append, hl]; exact h
theorem own_cat2 {w : World} {base L : Nat} {v : Value} {xs : List (Int × Int)} {m m' : Int × Int} (hl : xs.length = L) (h : w.ownsRow base TM 2 v (L + 1 + 1) (mcells xs ++ mcells [m] ++ mcells [m'])) : w.ownsRow base TM 2 v (xs ++ [m, m']).length (mcells (xs ++ [m, m'])) := by
  have e : xs ++ [m, m'] = xs ++ [m] ++ [m'] := by simp
  rw [e, mcells_append, mcells_append, List.length_append, List.length_append, hl]; exact h
theorem own_cat3 {w : World} {base L : Nat} {v : Value} {xs : List (Int × Int)} {m m' : Int × Int} (hl : xs.length = L) (h : w.ownsRow base TM 2 v (L + 2) (mcells xs ++ mcells [m, m'])) : w.ownsRow base TM 2 v (xs ++ [m, m']).length (mcells (xs ++ [m, m'])) := by
  rw [mcells_append, List.length_append, hl]; exact h
/-- what a mirrored term's call hands back: its marks, in memory of the call's own -/
def MirOut (p : Int) (ms : List (Int × Int)) (w : World) (e : Ending) (w' : World) : Prop :=
  ∃ v, e = .returned (.tuple #[v, .bool (mirOk p ms)]) ∧ w'.ownsRow w.heap.size TM 2 v (mirV p ms).length (mcells (mirV p ms)) ∧ Below w.heap.size w w'
theorem mir_no {p : Int} {ms : List (Int × Int)} (h : termOk p ms = false) : mirOk p ms = false ∧ mirV p ms = [] := by
  have : mirOk p ms = false := by simp [mirOk, h]
  exact ⟨this, by simp [mirV, this]⟩
theorem mir_long {p : Int} {ms : List (Int × Int)} (h : ¬ (mirN p ms).length ≤ 15) : mirOk p ms = false ∧ mirV p ms = [] := by
  have : mirOk p ms = false := by simp [mirOk]; omega
  exact ⟨this, by simp [mirV, this]⟩
theorem mir_yes {p : Int} {ms : List (Int × Int)} (h : termOk p ms = true) (hl : (mirN p ms).length ≤ 15) : mirOk p ms = true ∧ mirV p ms = mirN p ms := by
  have : mirOk p ms = true := by simp [mirOk, h, hl]
  exact ⟨this, by simp [mirV, this]⟩

set_option maxRecDepth 100000 in
set_option maxHeartbeats 2000000 in
theorem implMirrorTerm (p : Int) (ms : List (Int × Int)) (B : Nat) (v : Value) (w : World) (hr : RdMarks w B v ms) (hB : B ≤ w.heap.size) :
    Calls Try.prog 49 #[.int .i64 p, v] w (MirOut p ms w) := by
  obtain ⟨im, hmi, hmz0, hmz1, hmz2⟩ := info_parts Try.infoM
  have Mi := Lib.hid hmi; clear hmi
  have Mz0 := Lib.hid hmz0; clear hmz0
  have Mz1 := Lib.hid hmz1; clear hmz1
  have Mz2 := Lib.hid hmz2; clear hmz2
  by_cases hok : termOk p ms = true
  case neg =>
    have Hok : Hid (termOk p ms = false) := by simpa [Hid] using hok
    clear hok
    go_enter Try.func49, Try.ntmps49
    go_wp2_with fail
    refine (implTermOk _ _ _ _ _ hr hB).mono ?_
    rintro e w' ⟨rfl, hb1⟩
    rw [Hok.out]
    go_wp2
    go_ret2
    obtain ⟨h1, h2⟩ := mir_no Hok.out
    exact ⟨_, by rw [h1]; rfl, by rw [h2]; exact World.ownsRow_nil _ _ _ _, hb1⟩
  have Hok := Lib.hid hok; clear hok
  obtain ⟨⟨hp1, hp4⟩, hlen15, _⟩ := termOk_iff.1 Hok.out
  obtain ⟨wo, rfl⟩ : ∃ wo : World, wo = w := ⟨_, rfl⟩
  have Hr := Lib.hid hr
  obtain ⟨ao, cap, rfl, hal, ham, hi0, hac0⟩ := hr
  have hac := Lib.hid hac0; clear hac0 hi0
  unfold maxLen at ham
  go_enter Try.func49, Try.ntmps49
  go_wp2_with fail
  refine (implTermOk _ _ _ _ _ Hr.out hB).mono ?_
  rintro e w1 ⟨rfl, hb1⟩
  rw [Hok.out]
  go_wp2_with fail
  go_loopw [6, 15] (fun v i wr => ∃ k : Nat, k ≤ ms.length ∧ i = .int .i64 k ∧ wr.ownsRow wo.heap.size TM 2 v (mirN p (ms.take k)).length (mcells (mirN p (ms.take k))) ∧ Below wo.heap.size wo wr)
    (fun _ i _ => ms.length - (intOf i).toNat)
  case atStart => exact ⟨0, Nat.zero_le _, rfl, by rw [List.take_zero, mirN_nil]; exact World.ownsRow_nil _ _ _ _, hb1⟩
  case round =>
    obtain ⟨k, hk, rfl, hown, hbel⟩ := hrel
    by_cases hlt : k < ms.length
    · obtain ⟨b, off, rfl, hb, hc1, hc2⟩ := hac.out k hlt
      rw [← hbel.cell (p := ⟨b, _, none⟩) (show b < _ by omega)] at hc1 hc2
      have hmk := termOk_get Hok.out hlt
      have hL := mirN_len p (ms.take k)
      have hLk : (ms.take k).length ≤ k := List.length_take_le _ _
      have Hsucc := Lib.hid (mirN_take p ms k hlt)
      generalize hxs : mirN p (ms.take k) = xs at *
      have Hxs := Lib.hid hxs; clear hxs
      generalize hl : xs.length = L at *
      have Hl := Lib.hid hl; clear hl
      have hL30 : L ≤ 30 := by omega
      generalize ms.getD k (0, 0) = m at *
      obtain ⟨kd, x⟩ := m
      dsimp only at hc1 hc2 hmk
      have hkd : kd = 0 ∨ kd = 1 ∨ (2 ≤ kd ∧ kd ≤ 5) := by unfold mkOk at hmk; rw [decide_eq_true_eq] at hmk; omega
      rcases hkd with rfl | rfl | hkd
      · have Hm : Hid (mirM p (0, x) = [(0, x), (2, 0)]) := mirM0 p x
        have ht := taken_zero (k := 0) (.inl rfl)
        clear hmk
        go_wp2_with (first
          | (at_builtin
             refine wpList_append_own _ rfl (.tmp 28) (.tmp 30) 23 rfl wo.heap.size TM im (.agg #[.int .i64 0, .int .i64 0]) 2 16 Try.underlying23 Mi.out Mz0.out Mz1.out Mz2.out rfl (by decide) u6 L (mcells xs) rfl ((hown.alloc _).alloc _) ⟨wr.heap.size + 1, 0, none⟩ 1 _ (mcells [(0, x)]) rfl rfl (news2 _ _ (by simp) _ _ _) (mcells_one _) (by unfold maxLen; omega) (by omega) ?_ ?_
             go_must (simp; have := hbel.size; omega)
             go_must (intro v5 w5 hown5 hgr5 _
                      have hb5 : Below wo.heap.size wo w5 := ((hbel.alloc hbel.size _).alloc (by have := hbel.size; simp; omega) _).grown hgr5 (by have := hbel.size; simp; omega) (fun k hk => (hown.lt k hk).1)
                      have hs5 := hb5.size
                      have hm5 : w5.cell? ⟨wr.heap.size, 0, none⟩ = some (.int .i64 0) := by
                        rw [hgr5.cell_far _ (by simp; omega) (fun e => by have := (hown.lt wr.heap.size e.symm).2; omega)]
                        go_simp
                      have Hown5 := Lib.hid hown5
                      have Hb5 := Lib.hid hb5
                      clear hown5 hgr5 hb5))
          | (go_at_call 80
             refine (implPartsTaken _ _).mono ?_
             rintro e w' ⟨rfl, rfl⟩)
          | (at_builtin
             refine wpList_append_own _ rfl (.tmp 36) (.tmp 38) 23 rfl wo.heap.size TM im (.agg #[.int .i64 0, .int .i64 0]) 2 16 Try.underlying23 Mi.out Mz0.out Mz1.out Mz2.out rfl (by decide) v5 (L + 1) (mcells xs ++ mcells [(0, x)]) rfl (Hown5.out.alloc _) ⟨w5.heap.size, 0, none⟩ 1 _ (mcells [(2, 0)]) rfl rfl (news2 _ _ rfl _ _ _) (mcells_one _) (by unfold maxLen; omega) (by omega) ?_ ?_
             go_must (simp; omega)
             go_must (intro v6 w6 hown6 hgr6 _
                      have Hb6 := Lib.hid ((Hb5.out.alloc hs5 _).grown hgr6 (by simp; omega) (fun k hk => (Hown5.out.lt k hk).1))
                      have Hown6 := Lib.hid hown6
                      clear hown6 hgr6))
          | fail)
        go_roundw
        case rel => exact ⟨k + 1, by omega, by go_num, by rw [Hsucc.out, Hm.out]; exact own_cat2 Hl.out Hown6.out, Hb6.out⟩
        case measure => simp [intOf]; omega
      · have Hm : Hid (mirM p (1, x) = [(1, p + 1 - x), (2, 0)]) := mirM1 p x
        have hx : 0 ≤ x ∧ x ≤ 5 := by unfold mkOk at hmk; rw [decide_eq_true_eq] at hmk; omega
        have ht := taken_zero (k := 1) (.inr rfl)
        clear hmk
        go_wp2_with (first
          | (at_builtin
             refine wpList_append_own _ rfl (.tmp 28) (.tmp 30) 23 rfl wo.heap.size TM im (.agg #[.int .i64 0, .int .i64 0]) 2 16 Try.underlying23 Mi.out Mz0.out Mz1.out Mz2.out rfl (by decide) u6 L (mcells xs) rfl ((hown.alloc _).alloc _) ⟨wr.heap.size + 1, 0, none⟩ 1 _ (mcells [(1, (p + 1 - x))]) rfl rfl (news2 _ _ (by simp) _ _ _) (mcells_one _) (by unfold maxLen; omega) (by omega) ?_ ?_
             go_must (simp; have := hbel.size; omega)
             go_must (intro v5 w5 hown5 hgr5 _
                      have hb5 : Below wo.heap.size wo w5 := ((hbel.alloc hbel.size _).alloc (by have := hbel.size; simp; omega) _).grown hgr5 (by have := hbel.size; simp; omega) (fun k hk => (hown.lt k hk).1)
                      have hs5 := hb5.size
                      have hm5 : w5.cell? ⟨wr.heap.size, 0, none⟩ = some (.int .i64 1) := by
                        rw [hgr5.cell_far _ (by simp; omega) (fun e => by have := (hown.lt wr.heap.size e.symm).2; omega)]
                        go_simp
                      have Hown5 := Lib.hid hown5
                      have Hb5 := Lib.hid hb5
                      clear hown5 hgr5 hb5))
          | (go_at_call 80
             refine (implPartsTaken _ _).mono ?_
             rintro e w' ⟨rfl, rfl⟩)
          | (at_builtin
             refine wpList_append_own _ rfl (.tmp 36) (.tmp 38) 23 rfl wo.heap.size TM im (.agg #[.int .i64 0, .int .i64 0]) 2 16 Try.underlying23 Mi.out Mz0.out Mz1.out Mz2.out rfl (by decide) v5 (L + 1) (mcells xs ++ mcells [(1, (p + 1 - x))]) rfl (Hown5.out.alloc _) ⟨w5.heap.size, 0, none⟩ 1 _ (mcells [(2, 0)]) rfl rfl (news2 _ _ rfl _ _ _) (mcells_one _) (by unfold maxLen; omega) (by omega) ?_ ?_
             go_must (simp; omega)
             go_must (intro v6 w6 hown6 hgr6 _
                      have Hb6 := Lib.hid ((Hb5.out.alloc hs5 _).grown hgr6 (by simp; omega) (fun k hk => (Hown5.out.lt k hk).1))
                      have Hown6 := Lib.hid hown6
                      clear hown6 hgr6))
          | fail)
        go_roundw
        case rel => exact ⟨k + 1, by omega, by go_num, by rw [Hsucc.out, Hm.out]; exact own_cat2 Hl.out Hown6.out, Hb6.out⟩
        case measure => simp [intOf]; omega
      · have Hm : Hid (mirM p (kd, x) = [(kd, x)]) := mirMe hkd.1
        have hne : (kd == 1) = false := by rw [beq_eq_false_iff_ne]; omega
        have ht := taken_pos hkd
        clear hmk
        go_wp2_with (first
          | (at_builtin
             refine wpList_append_own _ rfl (.tmp 28) (.tmp 30) 23 rfl wo.heap.size TM im (.agg #[.int .i64 0, .int .i64 0]) 2 16 Try.underlying23 Mi.out Mz0.out Mz1.out Mz2.out rfl (by decide) u6 L (mcells xs) rfl ((hown.alloc _).alloc _) ⟨wr.heap.size + 1, 0, none⟩ 1 _ (mcells [(kd, x)]) rfl rfl (news2 _ _ (by simp) _ _ _) (mcells_one _) (by unfold maxLen; omega) (by omega) ?_ ?_
             go_must (simp; have := hbel.size; omega)
             go_must (intro v5 w5 hown5 hgr5 _
                      have hb5 : Below wo.heap.size wo w5 := ((hbel.alloc hbel.size _).alloc (by have := hbel.size; simp; omega) _).grown hgr5 (by have := hbel.size; simp; omega) (fun k hk => (hown.lt k hk).1)
                      have hs5 := hb5.size
                      have hm5 : w5.cell? ⟨wr.heap.size, 0, none⟩ = some (.int .i64 kd) := by
                        rw [hgr5.cell_far _ (by simp; omega) (fun e => by have := (hown.lt wr.heap.size e.symm).2; omega)]
                        go_simp
                      have Hown5 := Lib.hid hown5
                      have Hb5 := Lib.hid hb5
                      clear hown5 hgr5 hb5))
          | (go_at_call 80
             refine (implPartsTaken _ _).mono ?_
             rintro e w' ⟨rfl, rfl⟩)
          | fail)
        go_roundw
        case rel => exact ⟨k + 1, by omega, by go_num, by rw [Hsucc.out, Hm.out]; exact own_cat1 Hl.out Hown5.out, Hb5.out⟩
        case measure => simp [intOf]; omega
    · obtain rfl : k = ms.length := by omega
      rw [List.take_length] at hown
      have hL := mirN_len p ms
      by_cases h15 : (mirN p ms).length ≤ 15
      · have Hy := Lib.hid (mir_yes Hok.out h15)
        have Hown := Lib.hid hown; clear hown
        generalize hLL : (mirN p ms).length = L at *
        have HLL := Lib.hid hLL; clear hLL
        have hlc : (L : Int) ≤ 15 := by omega
        obtain ⟨rfl, rfl⟩ | ⟨gv, cv, rfl⟩ := ownsRow_forms Hown.out
        all_goals
          go_wp2
          go_ret2
          exact ⟨_, by rw [Hy.out.1]; rfl, by rw [Hy.out.2, HLL.out]; exact Hown.out, hbel⟩
      · have Hy := Lib.hid (mir_long h15)
        have Hown := Lib.hid hown; clear hown
        generalize hLL : (mirN p ms).length = L at *
        have HLL := Lib.hid hLL; clear hLL
        have hlc : (15 : Int) < (L : Int) := by omega
        obtain ⟨gv, cv, rfl⟩ := ownsRow_form Hown.out (by omega)
        go_wp2
        go_ret2
        exact ⟨_, by rw [Hy.out.1]; rfl, by rw [Hy.out.2]; exact World.ownsRow_nil _ _ _ _, hbel⟩
end Go.Proofs.Ytpccldbcmanhdaa

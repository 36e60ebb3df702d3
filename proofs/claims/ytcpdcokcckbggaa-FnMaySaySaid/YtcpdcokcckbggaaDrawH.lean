/- The reference model's draws of stage 3: a term and a world, two terms. -/
import Derived.Test.YtcpdcokcckbggaaDrawN
import Derived.OwnWalk
namespace Go.Proofs.Ytcpdcokcckbggaa
open Go.RowKit Go.Joins

/-- what a draw of a number of people, a row of marks and a world hands back -/
def OutH (w : World) (e : Ending) (w' : World) : Prop :=
  ∃ (p : Int) (g n cap : Nat) (ms : List (Int × Int)) (x : Int), 1 ≤ p ∧ p ≤ 4 ∧ e = .returned (.tuple #[.int .i64 p, .slice (some ⟨g, 0, none⟩) n cap, .int .i64 x]) ∧ ms.length = n ∧ w'.ownsRow w.heap.size TM 2 (.slice (some ⟨g, 0, none⟩) n cap) n (mcells ms) ∧ I64s ms ∧ n ≤ 20 ∧ 0 ≤ x ∧ x ≤ 100 ∧ Below w.heap.size w w'
/-- what a draw of a number of people and two rows of marks hands back -/
def OutW (w : World) (e : Ending) (w' : World) : Prop :=
  ∃ (p : Int) (ga ca gb cb : Nat) (xs ys : List (Int × Int)), 1 ≤ p ∧ p ≤ 8 ∧ e = .returned (.tuple #[.int .i64 p, .slice (some ⟨ga, 0, none⟩) xs.length ca, .slice (some ⟨gb, 0, none⟩) ys.length cb]) ∧
    w'.ownsRow w.heap.size TM 2 (.slice (some ⟨ga, 0, none⟩) xs.length ca) xs.length (mcells xs) ∧ w'.ownsRow w.heap.size TM 2 (.slice (some ⟨gb, 0, none⟩) ys.length cb) ys.length (mcells ys) ∧ I64s xs ∧ I64s ys ∧ xs.length ≤ 20 ∧ ys.length ≤ 100 ∧ Below w.heap.size w w'
set_option maxRecDepth 100000 in
set_option maxHeartbeats 2000000 in
theorem l20Terms (b c : Nat) (w : World) (hrd : Rd w b c) (hc : c ≤ 274877906944) :
    Calls Try.prog 74 #[.pointer (some ⟨b, 0, none⟩)] w fun e w' =>
      ∃ (p : Int) (ga ca gb cb : Nat) (xs ys : List (Int × Int)), 1 ≤ p ∧ p ≤ 8 ∧ e = .returned (.tuple #[.int .i64 p, .slice (some ⟨ga, 0, none⟩) xs.length ca, .slice (some ⟨gb, 0, none⟩) ys.length cb]) ∧
        w'.ownsRow w.heap.size TM 2 (.slice (some ⟨ga, 0, none⟩) xs.length ca) xs.length (mcells xs) ∧ w'.ownsRow w.heap.size TM 2 (.slice (some ⟨gb, 0, none⟩) ys.length cb) ys.length (mcells ys) ∧ I64s xs ∧ I64s ys ∧ xs.length ≤ 20 ∧ ys.length ≤ 100 ∧ w.grownBy w' (some b) := by
  obtain ⟨im, hmi, hmz0, hmz1, hmz2⟩ := info_parts Try.infoM
  have Mi := Lib.hid hmi; clear hmi
  have Mz0 := Lib.hid hmz0; clear hmz0
  have Mz1 := Lib.hid hmz1; clear hmz1
  have Mz2 := Lib.hid hmz2; clear hmz2
  have hbw := hrd.lt
  go_enter Try.func74, Try.ntmps74
  go_wp2_with fail
  refine (pick _ _ _ _ hrd (by omega) (by omega) (by omega)).mono ?_
  rintro e w1 ⟨x, hx0, hx1, rfl, hrd1, hg1⟩
  clear hrd
  have hPw : IntKind.i64.wrap (1 + x) = 1 + x := IntWalk.i64_in _ (by omega)
  have hP1 : 1 ≤ 1 + x := by omega
  have hP4 : 1 + x ≤ 4 := by omega
  go_wp2_with fail
  generalize 1 + x = P at *
  clear hx0 hx1
  refine (l20Term P 14 _ _ _ hrd1 hP1 hP4 (by omega) (by omega)).mono ?_
  rintro e w2 ⟨ga, na, ca, xs, rfl, hlen, hown2, hi2, hna, hrd2, hg2⟩
  subst hlen
  have hG2 := grownBy_trans hg1 hg2
  have hbw1 := hrd1.lt
  have hs1 := hg1.size
  clear hrd1 hg1 hg2
  go_wp2_with fail
  refine (l20Term P 14 _ _ _ hrd2 hP1 hP4 (by omega) (by omega)).mono ?_
  rintro e w3 ⟨gb, nb, cb, ys, rfl, hlen, hown3, hi3, hnb, hrd3, hg3⟩
  subst hlen
  have hG3 := grownBy_trans hG2 hg3
  have hbw2 := hrd2.lt
  have hs2 := hG2.size
  have hownA3 := own_mono (own_row hown2 hg3 hbw1) hs1
  have hownB3 := own_mono hown3 hs2
  clear hrd2 hG2 hg3 hown2 hown3
  go_wp2_with fail
  refine (pick _ _ _ _ hrd3 (by omega) (by omega) (by omega)).mono ?_
  rintro e w4 ⟨y, hy0, hy1, rfl, hrd4, hg4⟩
  have hG4 := grownBy_trans hG3 hg4
  have hs4 := hG4.size
  have Hxs := Lib.hid (own_row hownA3 hg4 hbw)
  have Hys := Lib.hid (own_row hownB3 hg4 hbw)
  have HG4 := Lib.hid hG4
  have Hi2 := Lib.hid hi2
  have Hi3 := Lib.hid hi3
  clear hrd3 hrd4 hG3 hg4 hownA3 hownB3 hG4 hi2 hi3
  have hy : y = 0 ∨ y = 1 ∨ (¬ y = 0 ∧ ¬ y = 1) := by omega
  rcases hy with rfl | rfl | ⟨h0, h1⟩
  · go_wp2_with (first
      | (at_builtin; refine wpList_append_own _ rfl (.tmp 21) (.tmp 22) 23 rfl w4.heap.size TM im (.agg #[.int .i64 0, .int .i64 0]) 2 16 Try.underlying23 Mi.out Mz0.out Mz1.out Mz2.out rfl (by decide) (.slice (some ⟨w4.heap.size, 0, none⟩) 0 0) 0 [] rfl (World.ownsRow_made w4 #[] 0 (Nat.le_refl _) (by unfold maxLen; omega) rfl) ⟨ga, 0, none⟩ xs.length ca (mcells xs) rfl (mcells_length _) ((Hxs.out.alloc _).cells (g := ga) rfl) (mcells_one _) (by unfold maxLen; omega) (by omega) (by simp) ?_; intro v1 w5 hown1 hgr1 _; simp only [Nat.zero_add, List.nil_append] at hown1
         have hG5 : w4.grownBy w5 none := grown_own (only_alloc (World.grownBy.refl _ _) _) hgr1 (fun k hk => by simp [Value.ownBlock] at hk; omega)
         have hsz5 : w4.heap.size ≤ w5.heap.size := hG5.size
         have HG5 := Lib.hid hG5; have Hown1 := Lib.hid hown1; clear hgr1 hG5 hown1)
      | (at_builtin; refine wpList_append_own _ rfl (.tmp 23) (.tmp 26) 23 rfl w4.heap.size TM im (.agg #[.int .i64 0, .int .i64 0]) 2 16 Try.underlying23 Mi.out Mz0.out Mz1.out Mz2.out rfl (by decide) v1 xs.length (mcells xs) rfl (Hown1.out.alloc _) ⟨w5.heap.size, 0, none⟩ 2 2 (mcells [(2, 0), (2, 0)]) rfl rfl (news4 _ _ rfl _ _ _ _ _) (mcells_one _) (by unfold maxLen; omega) (by omega) (by simp; omega) ?_; intro v2 w6 hown6 hgr6 _
         have hG6 : w4.grownBy w6 none := grown_own (only_alloc HG5.out _) hgr6 (fun k hk => (Hown1.out.lt k hk).1)
         have HB6 := Lib.hid (grown_own HG4.out hG6 (fun k hk => by cases hk))
         have Hxs6 := Lib.hid (own_none Hxs.out hG6)
         obtain ⟨g6, cap6, rfl⟩ := ownsRow_form hown6 (by omega)
         have Hown6 : Hid (w6.ownsRow w.heap.size TM 2 (.slice (some ⟨g6, 0, none⟩) (xs ++ [(2, (0 : Int)), (2, 0)]).length cap6) (xs ++ [(2, (0 : Int)), (2, 0)]).length (mcells (xs ++ [(2, 0), (2, 0)]))) := by
           unfold Hid
           rw [mcells_append, List.length_append]
           exact own_mono hown6 hs4
         clear hG6 hown6 hgr6)
      | fail)
    go_ret3
    exact ⟨P, ga, ca, g6, cap6, xs, xs ++ [(2, 0), (2, 0)], hP1, by omega, by rw [List.length_append]; rfl, Hxs6.out, Hown6.out, Hi2.out, I64s_append Hi2.out (I64s_append (ys := [(2, 0)]) (I64s_one (k := 2) (x := 0) (I64_small (by omega) (by omega)) (I64_small (by omega) (by omega))) (I64s_one (k := 2) (x := 0) (I64_small (by omega) (by omega)) (I64_small (by omega) (by omega)))), by omega, by simp; omega, HB6.out⟩
  · go_wp2_with (first
      | (at_builtin; refine wpList_append_own _ rfl (.tmp 30) (.tmp 31) 23 rfl w4.heap.size TM im (.agg #[.int .i64 0, .int .i64 0]) 2 16 Try.underlying23 Mi.out Mz0.out Mz1.out Mz2.out rfl (by decide) (.slice (some ⟨w4.heap.size, 0, none⟩) 0 0) 0 [] rfl (World.ownsRow_made w4 #[] 0 (Nat.le_refl _) (by unfold maxLen; omega) rfl) ⟨ga, 0, none⟩ xs.length ca (mcells xs) rfl (mcells_length _) ((Hxs.out.alloc _).cells (g := ga) rfl) (mcells_one _) (by unfold maxLen; omega) (by omega) (by simp) ?_; intro v1 w5 hown1 hgr1 _; simp only [Nat.zero_add, List.nil_append] at hown1
         have hG5 : w4.grownBy w5 none := grown_own (only_alloc (World.grownBy.refl _ _) _) hgr1 (fun k hk => by simp [Value.ownBlock] at hk; omega)
         have hsz5 : w4.heap.size ≤ w5.heap.size := hG5.size
         have Hys5 := Lib.hid (own_none Hys.out hG5)
         have HG5 := Lib.hid hG5; have Hown1 := Lib.hid hown1; clear hgr1 hG5 hown1)
      | (at_builtin; refine wpList_append_own _ rfl (.tmp 32) (.tmp 33) 23 rfl w4.heap.size TM im (.agg #[.int .i64 0, .int .i64 0]) 2 16 Try.underlying23 Mi.out Mz0.out Mz1.out Mz2.out rfl (by decide) v1 xs.length (mcells xs) rfl Hown1.out ⟨gb, 0, none⟩ ys.length cb (mcells ys) rfl (mcells_length _) (Hys5.out.cells (g := gb) rfl) (mcells_one _) (by unfold maxLen; omega) (by omega) (by omega) ?_; intro v2 w6 hown6 hgr6 _
         have hG6 : w4.grownBy w6 none := grown_own HG5.out hgr6 (fun k hk => (Hown1.out.lt k hk).1)
         have hsz6 : w4.heap.size ≤ w6.heap.size := hG6.size
         have HG6 := Lib.hid hG6; have Hown6 := Lib.hid hown6; clear hgr6 hG6 hown6)
      | (at_builtin; refine wpList_append_own _ rfl (.tmp 34) (.tmp 36) 23 rfl w4.heap.size TM im (.agg #[.int .i64 0, .int .i64 0]) 2 16 Try.underlying23 Mi.out Mz0.out Mz1.out Mz2.out rfl (by decide) v2 (xs.length + ys.length) (mcells xs ++ mcells ys) rfl (Hown6.out.alloc _) ⟨w6.heap.size, 0, none⟩ 1 1 (mcells [(4, 0)]) rfl rfl (news2 _ _ rfl _ _ _) (mcells_one _) (by unfold maxLen; omega) (by omega) (by simp; omega) ?_; intro v3 w7 hown7 hgr7 _
         have hG7 : w4.grownBy w7 none := grown_own (only_alloc HG6.out _) hgr7 (fun k hk => (Hown6.out.lt k hk).1)
         have HB7 := Lib.hid (grown_own HG4.out hG7 (fun k hk => by cases hk))
         have Hxs7 := Lib.hid (own_none Hxs.out hG7)
         obtain ⟨g7, cap7, rfl⟩ := ownsRow_form hown7 (by omega)
         have Hown7 : Hid (w7.ownsRow w.heap.size TM 2 (.slice (some ⟨g7, 0, none⟩) (xs ++ ys ++ [(4, (0 : Int))]).length cap7) (xs ++ ys ++ [(4, (0 : Int))]).length (mcells (xs ++ ys ++ [(4, 0)]))) := by
           unfold Hid
           rw [mcells_append, mcells_append, List.length_append, List.length_append]
           exact own_mono hown7 hs4
         clear hG7 hown7 hgr7)
      | fail)
    go_ret3
    exact ⟨P, ga, ca, g7, cap7, xs, xs ++ ys ++ [(4, 0)], hP1, by omega, by rw [List.length_append, List.length_append]; rfl, Hxs7.out, Hown7.out, Hi2.out, I64s_append (I64s_append Hi2.out Hi3.out) (I64s_one (k := 4) (x := 0) (I64_small (by omega) (by omega)) (I64_small (by omega) (by omega))), by omega, by simp; omega, HB7.out⟩
  · have h0' : (y == 0) = false := by rw [beq_eq_false_iff_ne]; exact h0
    have h1' : (y == 1) = false := by rw [beq_eq_false_iff_ne]; exact h1
    go_wp2
    go_ret3
    exact ⟨P, ga, ca, gb, cb, xs, ys, hP1, by omega, rfl, Hxs.out, Hys.out, Hi2.out, Hi3.out, by omega, by omega, HG4.out⟩
set_option maxHeartbeats 1000000 in
theorem drawSameOk (a : Value) (n : Nat) (w : World) (hr : RdBytes w w.heap.size a n) :
    Calls Try.prog 54 #[a] w (OutW w) := by
  go_enter Try.func54, Try.ntmps54
  go_wp2_with fail
  refine (l20Open _ _ _ hr).mono ?_
  rintro e w1 ⟨b, rfl, hb, hrd, hbel⟩
  go_wp2_with fail
  refine (l20Terms _ _ _ hrd (by omega)).mono ?_
  rintro e w2 ⟨p, ga, ca, gb, cb, xs, ys, hp1, hp8, rfl, hown, hown', hi, hi', hx, hy, hg2⟩
  have HB := Lib.hid (below_of_grown hbel hb hg2)
  have Hown := Lib.hid (own_mono hown hbel.size)
  have Hown' := Lib.hid (own_mono hown' hbel.size)
  have Hi := Lib.hid hi
  have Hi' := Lib.hid hi'
  clear hrd hg2 hbel hown hown' hi hi'
  go_wp2
  go_ret3
  exact ⟨p, ga, ca, gb, cb, xs, ys, hp1, hp8, rfl, Hown.out, Hown'.out, Hi.out, Hi'.out, hx, hy, HB.out⟩
set_option maxHeartbeats 1000000 in
theorem drawFollowsOk (a : Value) (n : Nat) (w : World) (hr : RdBytes w w.heap.size a n) :
    Calls Try.prog 46 #[a] w (OutW w) := by
  go_enter Try.func46, Try.ntmps46
  go_wp2_with fail
  refine (l20Open _ _ _ hr).mono ?_
  rintro e w1 ⟨b, rfl, hb, hrd, hbel⟩
  go_wp2_with fail
  refine (l20Terms _ _ _ hrd (by omega)).mono ?_
  rintro e w2 ⟨p, ga, ca, gb, cb, xs, ys, hp1, hp8, rfl, hown, hown', hi, hi', hx, hy, hg2⟩
  have HB := Lib.hid (below_of_grown hbel hb hg2)
  have Hown := Lib.hid (own_mono hown hbel.size)
  have Hown' := Lib.hid (own_mono hown' hbel.size)
  have Hi := Lib.hid hi
  have Hi' := Lib.hid hi'
  clear hrd hg2 hbel hown hown' hi hi'
  go_wp2
  go_ret3
  exact ⟨p, ga, ca, gb, cb, xs, ys, hp1, hp8, rfl, Hown.out, Hown'.out, Hi.out, Hi'.out, hx, hy, HB.out⟩
set_option maxRecDepth 100000 in
set_option maxHeartbeats 2000000 in
theorem drawAlwaysOk (a : Value) (n : Nat) (w : World) (hr : RdBytes w w.heap.size a n) :
    Calls Try.prog 50 #[a] w (OutT w) := by
  obtain ⟨im, hmi, hmz0, hmz1, hmz2⟩ := info_parts Try.infoM
  have Mi := Lib.hid hmi; clear hmi
  have Mz0 := Lib.hid hmz0; clear hmz0
  have Mz1 := Lib.hid hmz1; clear hmz1
  have Mz2 := Lib.hid hmz2; clear hmz2
  go_enter Try.func50, Try.ntmps50
  go_wp2_with fail
  refine (l20Open _ _ _ hr).mono ?_
  rintro e w1 ⟨b, rfl, hb, hrd, hbel⟩
  have hbw := hrd.lt
  go_wp2_with fail
  refine (l20Termed 9 _ _ _ hrd (by omega) (by omega)).mono ?_
  rintro e w2 ⟨p, g, n, cap, ms, hp1, hp8, rfl, hlen, hown, hi, hn, hrd2, hg2⟩
  subst hlen
  clear hrd
  go_wp2_with fail
  refine (pick _ _ _ _ hrd2 (by omega) (by omega) (by omega)).mono ?_
  rintro e w3 ⟨y, hy0, hy1, rfl, hrd3, hg3⟩
  have hG3 := grownBy_trans hg2 hg3
  have hs3 := hG3.size
  have hown3 := own_row hown hg3 hbw
  have HB3 := Lib.hid (below_of_grown hbel hb hG3)
  have Hown3 := Lib.hid (own_mono hown3 hbel.size)
  have Hi := Lib.hid hi
  have hsw := HB3.out.size
  clear hrd2 hrd3 hg2 hg3 hbel hown hown3 hi hG3
  by_cases hy : y = 0 ∧ ms.length ≤ 6
  · obtain ⟨rfl, hl6⟩ := hy
    have hl6' : (ms.length : Int) ≤ 6 := by omega
    go_wp2_with (first
      | (at_builtin; refine wpList_append_own _ rfl (.tmp 23) (.tmp 24) 23 rfl w3.heap.size TM im (.agg #[.int .i64 0, .int .i64 0]) 2 16 Try.underlying23 Mi.out Mz0.out Mz1.out Mz2.out rfl (by decide) (.slice (some ⟨w3.heap.size, 0, none⟩) 0 0) 0 [] rfl (World.ownsRow_made w3 #[] 0 (Nat.le_refl _) (by unfold maxLen; omega) rfl) ⟨g, 0, none⟩ ms.length cap (mcells ms) rfl (mcells_length _) ((Hown3.out.alloc _).cells (g := g) rfl) (mcells_one _) (by unfold maxLen; omega) (by omega) (by simp) ?_; intro v1 w5 hown1 hgr1 _; simp only [Nat.zero_add, List.nil_append] at hown1
         have hG5 : w3.grownBy w5 none := grown_own (only_alloc (World.grownBy.refl _ _) _) hgr1 (fun k hk => by simp [Value.ownBlock] at hk; omega)
         have hsz5 : w3.heap.size ≤ w5.heap.size := hG5.size
         have Hys5 := Lib.hid (own_none Hown3.out hG5)
         have HG5 := Lib.hid hG5; have Hown1 := Lib.hid hown1; clear hgr1 hG5 hown1)
      | (at_builtin; refine wpList_append_own _ rfl (.tmp 25) (.tmp 26) 23 rfl w3.heap.size TM im (.agg #[.int .i64 0, .int .i64 0]) 2 16 Try.underlying23 Mi.out Mz0.out Mz1.out Mz2.out rfl (by decide) v1 ms.length (mcells ms) rfl Hown1.out ⟨g, 0, none⟩ ms.length cap (mcells ms) rfl (mcells_length _) (Hys5.out.cells (g := g) rfl) (mcells_one _) (by unfold maxLen; omega) (by omega) (by omega) ?_; intro v2 w6 hown6 hgr6 _
         have hG6 : w3.grownBy w6 none := grown_own HG5.out hgr6 (fun k hk => (Hown1.out.lt k hk).1)
         have hsz6 : w3.heap.size ≤ w6.heap.size := hG6.size
         have HG6 := Lib.hid hG6; have Hown6 := Lib.hid hown6; clear hgr6 hG6 hown6)
      | (at_builtin; refine wpList_append_own _ rfl (.tmp 27) (.tmp 29) 23 rfl w3.heap.size TM im (.agg #[.int .i64 0, .int .i64 0]) 2 16 Try.underlying23 Mi.out Mz0.out Mz1.out Mz2.out rfl (by decide) v2 (ms.length + ms.length) (mcells ms ++ mcells ms) rfl (Hown6.out.alloc _) ⟨w6.heap.size, 0, none⟩ 1 1 (mcells [(5, 0)]) rfl rfl (news2 _ _ rfl _ _ _) (mcells_one _) (by unfold maxLen; omega) (by omega) (by simp; omega) ?_; intro v3 w7 hown7 hgr7 _
         have hG7 : w3.grownBy w7 none := grown_own (only_alloc HG6.out _) hgr7 (fun k hk => (Hown6.out.lt k hk).1)
         have HB7 := Lib.hid (HB3.out.trans ((below_none hG7).mono hsw))
         obtain ⟨g7, cap7, rfl⟩ := ownsRow_form hown7 (by omega)
         have Hown7 : Hid (w7.ownsRow w.heap.size TM 2 (.slice (some ⟨g7, 0, none⟩) (ms.length + ms.length + 1) cap7) (ms.length + ms.length + 1) (mcells (ms ++ ms ++ [(5, 0)]))) := by
           unfold Hid
           rw [mcells_append, mcells_append]
           exact own_mono hown7 hsw
         clear hG7 hown7 hgr7)
      | fail)
    go_ret2
    exact ⟨p, g7, ms.length + ms.length + 1, cap7, ms ++ ms ++ [(5, 0)], hp1, hp8, rfl, by simp; omega, Hown7.out, I64s_append (I64s_append Hi.out Hi.out) (I64s_one (k := 5) (x := 0) (I64_small (by omega) (by omega)) (I64_small (by omega) (by omega))), by omega, HB7.out⟩
  · have HH : Hid (¬ y = 0 ∨ 6 < ms.length) := by unfold Hid; omega
    clear hy
    rcases HH.out with hy | hl
    · have hyb : (y == 0) = false := by rw [beq_eq_false_iff_ne]; exact hy
      go_wp2
      go_ret2
      exact ⟨p, g, ms.length, cap, ms, hp1, hp8, rfl, rfl, Hown3.out, Hi.out, hn, HB3.out⟩
    · have hl' : ¬ (ms.length : Int) ≤ 6 := by omega
      have hl'' : (6 : Int) < (ms.length : Int) := by omega
      by_cases hy : y = 0
      · subst hy
        go_wp2
        go_ret2
        exact ⟨p, g, ms.length, cap, ms, hp1, hp8, rfl, rfl, Hown3.out, Hi.out, hn, HB3.out⟩
      · have hyb : (y == 0) = false := by rw [beq_eq_false_iff_ne]; exact hy
        go_wp2
        go_ret2
        exact ⟨p, g, ms.length, cap, ms, hp1, hp8, rfl, rfl, Hown3.out, Hi.out, hn, HB3.out⟩
end Go.Proofs.Ytcpdcokcckbggaa

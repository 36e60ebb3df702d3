/- Contracts of the reference's reader of texts, by places: the levels, and ReadTerm. -/
import Derived.Test.YtmcdfbjmbelklaaDoorReadN
import Derived.Test.YtmcdfbjmbelklaaDoorReadL
namespace Go.Proofs.YtmcdfbjmbelklaaDoor
open Go.RowKit Go.Joins
theorem l2AtomC (s : List UInt8) (hs : s.length ≤ 60) (k : Nat) (hk : k ≤ s.length) (h : k < s.length → AtC s (k + 1) ∧ LevC s 5 (k + 1)) : AtC s k := by
  by_cases hlt : k < s.length
  · obtain ⟨c, hd, hget⟩ := drop_at hlt
    obtain ⟨hA, hL⟩ := h hlt
    by_cases h33 : c.toNat = 33
    · obtain rfl : c = 33 := UInt8.toNat_inj.1 h33
      exact l2Atom_not s k hs hlt hd hget hA
    · by_cases h40 : c.toNat = 40
      · obtain rfl : c = 40 := UInt8.toNat_inj.1 h40
        exact l2Atom_open s k hs hlt hd hget hL
      · by_cases h1 : 97 ≤ c.toNat ∧ c.toNat < 97 + 4
        · exact l2Atom_letter s k hs hlt c hd hget h1
        · by_cases h2 : 48 ≤ c.toNat ∧ c.toNat < 48 + 6
          · exact l2Atom_digit s k hs hlt c hd hget h2
          · exact l2Atom_other s k hs hlt c hd hget h1 h2 h33 h40
  · exact l2Atom_end s k hs (by omega)
set_option maxRecDepth 100000 in
set_option maxHeartbeats 1000000 in
theorem l2Level2 (s : List UInt8) (k : Nat) (h : AtC s k) : LevC s 2 k := by
  intro w
  have H := Lib.hid (h w)
  clear h
  go_enter Tryd.func37, Tryd.ntmps37
  go_wp2_with fail
  refine H.out.mono ?_
  rintro e w1 ⟨hb1, g, cap, t, n, rfl, hown, hres⟩
  have Hfin := Lib.hid (show LevOut s k 2 w (.returned (.tuple #[.slice (some ⟨g, 0, none⟩) t.length cap, .int .i64 n])) w1 from ⟨hb1, g, cap, t, n, rfl, hown, hres⟩)
  clear hb1 hown hres
  go_wp2
  go_ret2
  exact Hfin.out
/-- rounds that are left -/
def leftOf (L : Nat) (v : Value) : Nat := if 0 ≤ intOf v then L + 1 - (intOf v).toNat else 0
theorem leftOf_nat (L j : Nat) : leftOf L (.int .i64 (j : Int)) = L + 1 - j := by
  unfold leftOf
  show (if 0 ≤ (j : Int) then L + 1 - (j : Int).toNat else 0) = _
  rw [if_pos (by omega), Int.toNat_natCast]
theorem leftOf_neg (L : Nat) : leftOf L (.int .i64 (-1)) = 0 := rfl
set_option maxRecDepth 100000 in
set_option maxHeartbeats 2000000 in
theorem l2Level3 (s : List UInt8) (hs : s.length ≤ 60) (k : Nat) (hk : k ≤ s.length) (h : ∀ k', k ≤ k' → k' ≤ s.length → LevC s 2 k') : LevC s 3 k := by
  intro w
  obtain ⟨im, hmi, hmz0, hmz1, hmz2⟩ := info_parts Tryd.infoM
  have Mi := Lib.hid hmi; clear hmi
  have Mz0 := Lib.hid hmz0; clear hmz0
  have Mz1 := Lib.hid hmz1; clear hmz1
  have Mz2 := Lib.hid hmz2; clear hmz2
  have H := Lib.hid h; clear h
  have H1 := Lib.hid (H.out k (Nat.le_refl _) hk w)
  have Hlev := Lib.hid (rdAt_level (nl := 4) (nd := 6) (k := 3) (by omega) (s.drop k) [])
  obtain ⟨wo, rfl⟩ : ∃ wo : World, wo = w := ⟨_, rfl⟩
  have hsg : ∀ h', (⟨#[38, 124, 61]⟩ : ByteArray)[0]'h' = 38 := fun _ => rfl
  go_enter Tryd.func37, Tryd.ntmps37
  go_wp2_with fail
  refine H1.out.mono ?_
  rintro e w1 ⟨hb1, g, cap, t, n, rfl, hown, hres⟩
  go_wp2_with fail
  go_loopw [9, 10] (fun t n wr => Below wo.heap.size wo wr ∧ ∃ (g cap : Nat) (ms : List (Int × Int)) (x : Int), t = .slice (some ⟨g, 0, none⟩) ms.length cap ∧ n = .int .i64 x ∧ wr.ownsRow wo.heap.size TM 2 (.slice (some ⟨g, 0, none⟩) ms.length cap) ms.length (mcells ms) ∧ ((∃ j : Nat, x = j ∧ k < j ∧ j ≤ s.length ∧ ms.length ≤ j - k ∧ Hid (rdAt 4 6 3 (s.drop k) [] = rdAt 4 6 13 (s.drop j) ms)) ∨ (x = -1 ∧ ms.length ≤ s.length - k ∧ Hid (rdAt 4 6 3 (s.drop k) [] = none)))) (fun _ n _ => leftOf s.length n)
  case atStart =>
    refine ⟨hb1, g, cap, t, n, rfl, rfl, hown, ?_⟩
    rcases hres with ⟨j, rfl, hj1, hj2, hj3, hrd⟩ | ⟨rfl, hj3, hrd⟩
    · exact .inl ⟨j, rfl, hj1, hj2, hj3, by unfold Hid; rw [Hlev.out, hrd]⟩
    · exact .inr ⟨rfl, hj3, by unfold Hid; rw [Hlev.out, hrd]⟩
  case round =>
    clear hb1 hown hres
    obtain ⟨hbr, g, cap, ms, x, rfl, rfl, hown, hres⟩ := hrel
    have Hbr := Lib.hid hbr
    have hsr := hbr.size
    have Hown := Lib.hid hown
    clear hbr hown
    rcases hres with ⟨j, rfl, hj1, hj2, hj3, hrd⟩ | ⟨rfl, hj3, hrd⟩
    · have hj0 : (0 : Int) ≤ (j : Int) := by omega
      by_cases hjl : j < s.length
      · obtain ⟨c, hd, hget⟩ := drop_at hjl
        have hjl1 : (j : Int) < (s.length : Int) := by omega
        have hw : IntKind.i64.wrap ((j : Int) + 1) = ((j + 1 : Nat) : Int) := by rw [IntWalk.i64_in _ (by omega)]; omega
        have hrd1 := hrd.out
        rw [hd, rdAt_loop (k := 3) (by omega), show ((3 : Nat) : Int) = (3 : Int) from rfl] at hrd1
        by_cases hc : c = sign 3
        · rw [if_pos hc] at hrd1
          have hcc : c = 38 := hc
          subst hcc
          rw [rdAt_frame (mode := 2) _ ms (by unfold Mode; omega)] at hrd1
          have Hrd1 := Lib.hid hrd1
          have Hj := Lib.hid (H.out (j + 1) (by omega) (by omega) wr)
          clear hrd hrd1 hd hc
          go_wp2_with fail
          refine Hj.out.mono ?_
          rintro e w2 ⟨hb2, g2, cap2, t2, n2, rfl, hown2, hres2⟩
          have htl : t2.length ≤ 60 := by rcases hres2 with ⟨i, rfl, h1, h2, h3, _⟩ | ⟨rfl, h3, _⟩ <;> omega
          have hml : ms.length ≤ 60 := by omega
          have Hres2 := Lib.hid hres2
          have Hb2 := Lib.hid (Hbr.out.trans (hb2.mono hsr))
          have hs2 := Hb2.out.size
          have Hown2 := Lib.hid hown2
          have Hms2 := Lib.hid (own_below Hown.out hb2)
          clear hb2 hown2 hres2
          go_wp2_with (first
            | (at_builtin; refine wpList_append_own _ rfl (.tmp 55) (.tmp 56) 23 rfl w2.heap.size TM im (.agg #[.int .i64 0, .int .i64 0]) 2 16 Tryd.underlying23 Mi.out Mz0.out Mz1.out Mz2.out rfl (by decide) (.slice (some ⟨w2.heap.size, 0, none⟩) 0 0) 0 [] rfl (World.ownsRow_made w2 #[] 0 (Nat.le_refl _) (by unfold maxLen; omega) rfl) ⟨g, 0, none⟩ ms.length cap (mcells ms) rfl (mcells_length _) ((Hms2.out.alloc _).cells (g := g) rfl) (mcells_one _) (by unfold maxLen; omega) (by omega) (by simp) ?_; intro v1 w5 hown1 hgr1 _; simp only [Nat.zero_add, List.nil_append] at hown1
               have hG5 : w2.grownBy w5 none := grown_own (only_alloc (World.grownBy.refl _ _) _) hgr1 (fun k hk => by simp [Value.ownBlock] at hk; omega)
               have hsz5 : w2.heap.size ≤ w5.heap.size := hG5.size
               have Hown25 := Lib.hid (own_none Hown2.out hG5)
               have HG5 := Lib.hid hG5; have Hown1 := Lib.hid hown1; clear hgr1 hG5 hown1)
            | (at_builtin; refine wpList_append_own _ rfl (.tmp 57) (.tmp 58) 23 rfl w2.heap.size TM im (.agg #[.int .i64 0, .int .i64 0]) 2 16 Tryd.underlying23 Mi.out Mz0.out Mz1.out Mz2.out rfl (by decide) v1 ms.length (mcells ms) rfl Hown1.out ⟨g2, 0, none⟩ t2.length cap2 (mcells t2) rfl (mcells_length _) (Hown25.out.cells (g := g2) rfl) (mcells_one _) (by unfold maxLen; omega) (by omega) (by omega) ?_; intro v2 w6 hown6 hgr6 _
               have hG6 : w2.grownBy w6 none := grown_own HG5.out hgr6 (fun k hk => (Hown1.out.lt k hk).1)
               have hsz6 : w2.heap.size ≤ w6.heap.size := hG6.size
               have HG6 := Lib.hid hG6; have Hown6 := Lib.hid hown6; clear hgr6 hG6 hown6)
            | (at_builtin; refine wpList_append_own _ rfl (.tmp 59) (.tmp 62) 23 rfl w2.heap.size TM im (.agg #[.int .i64 0, .int .i64 0]) 2 16 Tryd.underlying23 Mi.out Mz0.out Mz1.out Mz2.out rfl (by decide) v2 (ms.length + t2.length) (mcells ms ++ mcells t2) rfl (Hown6.out.alloc _) ⟨w6.heap.size, 0, none⟩ 1 1 (mcells [(3, 0)]) rfl rfl (news2 _ _ rfl _ _ _) (mcells_one _) (by unfold maxLen; omega) (by omega) (by simp; omega) ?_; intro v3 w7 hown7 hgr7 _
               have hG7 : w2.grownBy w7 none := grown_own (only_alloc HG6.out _) hgr7 (fun k hk => (Hown6.out.lt k hk).1)
               have Hb7 := Lib.hid (Hb2.out.trans ((below_none hG7).mono hs2))
               obtain ⟨g7, cap7, rfl⟩ := ownsRow_form hown7 (by omega)
               have Hown7 : Hid (w7.ownsRow wo.heap.size TM 2 (.slice (some ⟨g7, 0, none⟩) (ms ++ t2 ++ [(3, (0 : Int))]).length cap7) (ms ++ t2 ++ [(3, (0 : Int))]).length (mcells (ms ++ t2 ++ [(3, 0)]))) := by
                 unfold Hid
                 rw [mcells_append, mcells_append, List.length_append, List.length_append]
                 exact own_mono hown7 hs2
               clear hG7 hown7 hgr7)
            | fail)
          go_roundw
          case rel =>
            refine ⟨Hb7.out, g7, cap7, ms ++ t2 ++ [(3, 0)], n2, by rw [List.length_append, List.length_append]; rfl, rfl, Hown7.out, ?_⟩
            rcases Hres2.out with ⟨i, rfl, hi1, hi2, hi3, hrd2⟩ | ⟨rfl, hi3, hrd2⟩
            · exact .inl ⟨i, rfl, by omega, hi2, by simp; omega, by unfold Hid; rw [Hrd1.out, hrd2]; rfl⟩
            · exact .inr ⟨rfl, by simp; omega, by unfold Hid; rw [Hrd1.out, hrd2]; rfl⟩
          case measure =>
            rcases Hres2.out with ⟨i, rfl, hi1, hi2, hi3, hrd2⟩ | ⟨rfl, hi3, hrd2⟩
            · show leftOf s.length (.int .i64 (i : Int)) < leftOf s.length (.int .i64 (j : Int))
              rw [leftOf_nat, leftOf_nat]; omega
            · show leftOf s.length (.int .i64 (-1)) < leftOf s.length (.int .i64 (j : Int))
              rw [leftOf_nat, leftOf_neg]; omega
        · rw [if_neg hc, ← hd] at hrd1
          have Hrd1 := Lib.hid hrd1
          have hne : ¬ (c.toNat : Int) = 38 := by
            intro e; apply hc; apply UInt8.toNat_inj.1; show c.toNat = 38; omega
          clear hrd hrd1 hd hc H H1 Hlev
          go_wp2
          go_ret2
          exact ⟨Hbr.out, g, cap, ms, _, rfl, Hown.out, .inl ⟨j, rfl, hj1, hj2, hj3, Hrd1.out⟩⟩
      · have hjl1 : ¬ (j : Int) < (s.length : Int) := by omega
        have hrd1 := hrd.out
        rw [List.drop_of_length_le (show s.length ≤ j by omega), rdAt_loop_nil (by omega)] at hrd1
        have Hrd1 : Hid (rdAt 4 6 3 (s.drop k) [] = some (s.drop j, ms)) := by unfold Hid; rw [hrd1, List.drop_of_length_le (show s.length ≤ j by omega)]
        clear hrd hrd1
        go_wp2
        go_ret2
        exact ⟨Hbr.out, g, cap, ms, _, rfl, Hown.out, .inl ⟨j, rfl, hj1, hj2, hj3, Hrd1.out⟩⟩
    · go_wp2
      go_ret2
      exact ⟨Hbr.out, g, cap, ms, _, rfl, Hown.out, .inr ⟨rfl, hj3, hrd.out⟩⟩
set_option maxRecDepth 100000 in
set_option maxHeartbeats 2000000 in
theorem l2Level4 (s : List UInt8) (hs : s.length ≤ 60) (k : Nat) (hk : k ≤ s.length) (h : ∀ k', k ≤ k' → k' ≤ s.length → LevC s 3 k') : LevC s 4 k := by
  intro w
  obtain ⟨im, hmi, hmz0, hmz1, hmz2⟩ := info_parts Tryd.infoM
  have Mi := Lib.hid hmi; clear hmi
  have Mz0 := Lib.hid hmz0; clear hmz0
  have Mz1 := Lib.hid hmz1; clear hmz1
  have Mz2 := Lib.hid hmz2; clear hmz2
  have H := Lib.hid h; clear h
  have H1 := Lib.hid (H.out k (Nat.le_refl _) hk w)
  have Hlev := Lib.hid (rdAt_level (nl := 4) (nd := 6) (k := 4) (by omega) (s.drop k) [])
  obtain ⟨wo, rfl⟩ : ∃ wo : World, wo = w := ⟨_, rfl⟩
  have hsg : ∀ h', (⟨#[38, 124, 61]⟩ : ByteArray)[1]'h' = 124 := fun _ => rfl
  go_enter Tryd.func37, Tryd.ntmps37
  go_wp2_with fail
  refine H1.out.mono ?_
  rintro e w1 ⟨hb1, g, cap, t, n, rfl, hown, hres⟩
  go_wp2_with fail
  go_loopw [9, 10] (fun t n wr => Below wo.heap.size wo wr ∧ ∃ (g cap : Nat) (ms : List (Int × Int)) (x : Int), t = .slice (some ⟨g, 0, none⟩) ms.length cap ∧ n = .int .i64 x ∧ wr.ownsRow wo.heap.size TM 2 (.slice (some ⟨g, 0, none⟩) ms.length cap) ms.length (mcells ms) ∧ ((∃ j : Nat, x = j ∧ k < j ∧ j ≤ s.length ∧ ms.length ≤ j - k ∧ Hid (rdAt 4 6 4 (s.drop k) [] = rdAt 4 6 14 (s.drop j) ms)) ∨ (x = -1 ∧ ms.length ≤ s.length - k ∧ Hid (rdAt 4 6 4 (s.drop k) [] = none)))) (fun _ n _ => leftOf s.length n)
  case atStart =>
    refine ⟨hb1, g, cap, t, n, rfl, rfl, hown, ?_⟩
    rcases hres with ⟨j, rfl, hj1, hj2, hj3, hrd⟩ | ⟨rfl, hj3, hrd⟩
    · exact .inl ⟨j, rfl, hj1, hj2, hj3, by unfold Hid; rw [Hlev.out, hrd]⟩
    · exact .inr ⟨rfl, hj3, by unfold Hid; rw [Hlev.out, hrd]⟩
  case round =>
    clear hb1 hown hres
    obtain ⟨hbr, g, cap, ms, x, rfl, rfl, hown, hres⟩ := hrel
    have Hbr := Lib.hid hbr
    have hsr := hbr.size
    have Hown := Lib.hid hown
    clear hbr hown
    rcases hres with ⟨j, rfl, hj1, hj2, hj3, hrd⟩ | ⟨rfl, hj3, hrd⟩
    · have hj0 : (0 : Int) ≤ (j : Int) := by omega
      by_cases hjl : j < s.length
      · obtain ⟨c, hd, hget⟩ := drop_at hjl
        have hjl1 : (j : Int) < (s.length : Int) := by omega
        have hw : IntKind.i64.wrap ((j : Int) + 1) = ((j + 1 : Nat) : Int) := by rw [IntWalk.i64_in _ (by omega)]; omega
        have hrd1 := hrd.out
        rw [hd, rdAt_loop (k := 4) (by omega), show ((4 : Nat) : Int) = (4 : Int) from rfl] at hrd1
        by_cases hc : c = sign 4
        · rw [if_pos hc] at hrd1
          have hcc : c = 124 := hc
          subst hcc
          rw [rdAt_frame (mode := 3) _ ms (by unfold Mode; omega)] at hrd1
          have Hrd1 := Lib.hid hrd1
          have Hj := Lib.hid (H.out (j + 1) (by omega) (by omega) wr)
          clear hrd hrd1 hd hc
          go_wp2_with fail
          refine Hj.out.mono ?_
          rintro e w2 ⟨hb2, g2, cap2, t2, n2, rfl, hown2, hres2⟩
          have htl : t2.length ≤ 60 := by rcases hres2 with ⟨i, rfl, h1, h2, h3, _⟩ | ⟨rfl, h3, _⟩ <;> omega
          have hml : ms.length ≤ 60 := by omega
          have Hres2 := Lib.hid hres2
          have Hb2 := Lib.hid (Hbr.out.trans (hb2.mono hsr))
          have hs2 := Hb2.out.size
          have Hown2 := Lib.hid hown2
          have Hms2 := Lib.hid (own_below Hown.out hb2)
          clear hb2 hown2 hres2
          go_wp2_with (first
            | (at_builtin; refine wpList_append_own _ rfl (.tmp 55) (.tmp 56) 23 rfl w2.heap.size TM im (.agg #[.int .i64 0, .int .i64 0]) 2 16 Tryd.underlying23 Mi.out Mz0.out Mz1.out Mz2.out rfl (by decide) (.slice (some ⟨w2.heap.size, 0, none⟩) 0 0) 0 [] rfl (World.ownsRow_made w2 #[] 0 (Nat.le_refl _) (by unfold maxLen; omega) rfl) ⟨g, 0, none⟩ ms.length cap (mcells ms) rfl (mcells_length _) ((Hms2.out.alloc _).cells (g := g) rfl) (mcells_one _) (by unfold maxLen; omega) (by omega) (by simp) ?_; intro v1 w5 hown1 hgr1 _; simp only [Nat.zero_add, List.nil_append] at hown1
               have hG5 : w2.grownBy w5 none := grown_own (only_alloc (World.grownBy.refl _ _) _) hgr1 (fun k hk => by simp [Value.ownBlock] at hk; omega)
               have hsz5 : w2.heap.size ≤ w5.heap.size := hG5.size
               have Hown25 := Lib.hid (own_none Hown2.out hG5)
               have HG5 := Lib.hid hG5; have Hown1 := Lib.hid hown1; clear hgr1 hG5 hown1)
            | (at_builtin; refine wpList_append_own _ rfl (.tmp 57) (.tmp 58) 23 rfl w2.heap.size TM im (.agg #[.int .i64 0, .int .i64 0]) 2 16 Tryd.underlying23 Mi.out Mz0.out Mz1.out Mz2.out rfl (by decide) v1 ms.length (mcells ms) rfl Hown1.out ⟨g2, 0, none⟩ t2.length cap2 (mcells t2) rfl (mcells_length _) (Hown25.out.cells (g := g2) rfl) (mcells_one _) (by unfold maxLen; omega) (by omega) (by omega) ?_; intro v2 w6 hown6 hgr6 _
               have hG6 : w2.grownBy w6 none := grown_own HG5.out hgr6 (fun k hk => (Hown1.out.lt k hk).1)
               have hsz6 : w2.heap.size ≤ w6.heap.size := hG6.size
               have HG6 := Lib.hid hG6; have Hown6 := Lib.hid hown6; clear hgr6 hG6 hown6)
            | (at_builtin; refine wpList_append_own _ rfl (.tmp 59) (.tmp 62) 23 rfl w2.heap.size TM im (.agg #[.int .i64 0, .int .i64 0]) 2 16 Tryd.underlying23 Mi.out Mz0.out Mz1.out Mz2.out rfl (by decide) v2 (ms.length + t2.length) (mcells ms ++ mcells t2) rfl (Hown6.out.alloc _) ⟨w6.heap.size, 0, none⟩ 1 1 (mcells [(4, 0)]) rfl rfl (news2 _ _ rfl _ _ _) (mcells_one _) (by unfold maxLen; omega) (by omega) (by simp; omega) ?_; intro v3 w7 hown7 hgr7 _
               have hG7 : w2.grownBy w7 none := grown_own (only_alloc HG6.out _) hgr7 (fun k hk => (Hown6.out.lt k hk).1)
               have Hb7 := Lib.hid (Hb2.out.trans ((below_none hG7).mono hs2))
               obtain ⟨g7, cap7, rfl⟩ := ownsRow_form hown7 (by omega)
               have Hown7 : Hid (w7.ownsRow wo.heap.size TM 2 (.slice (some ⟨g7, 0, none⟩) (ms ++ t2 ++ [(4, (0 : Int))]).length cap7) (ms ++ t2 ++ [(4, (0 : Int))]).length (mcells (ms ++ t2 ++ [(4, 0)]))) := by
                 unfold Hid
                 rw [mcells_append, mcells_append, List.length_append, List.length_append]
                 exact own_mono hown7 hs2
               clear hG7 hown7 hgr7)
            | fail)
          go_roundw
          case rel =>
            refine ⟨Hb7.out, g7, cap7, ms ++ t2 ++ [(4, 0)], n2, by rw [List.length_append, List.length_append]; rfl, rfl, Hown7.out, ?_⟩
            rcases Hres2.out with ⟨i, rfl, hi1, hi2, hi3, hrd2⟩ | ⟨rfl, hi3, hrd2⟩
            · exact .inl ⟨i, rfl, by omega, hi2, by simp; omega, by unfold Hid; rw [Hrd1.out, hrd2]; rfl⟩
            · exact .inr ⟨rfl, by simp; omega, by unfold Hid; rw [Hrd1.out, hrd2]; rfl⟩
          case measure =>
            rcases Hres2.out with ⟨i, rfl, hi1, hi2, hi3, hrd2⟩ | ⟨rfl, hi3, hrd2⟩
            · show leftOf s.length (.int .i64 (i : Int)) < leftOf s.length (.int .i64 (j : Int))
              rw [leftOf_nat, leftOf_nat]; omega
            · show leftOf s.length (.int .i64 (-1)) < leftOf s.length (.int .i64 (j : Int))
              rw [leftOf_nat, leftOf_neg]; omega
        · rw [if_neg hc, ← hd] at hrd1
          have Hrd1 := Lib.hid hrd1
          have hne : ¬ (c.toNat : Int) = 124 := by
            intro e; apply hc; apply UInt8.toNat_inj.1; show c.toNat = 124; omega
          clear hrd hrd1 hd hc H H1 Hlev
          go_wp2
          go_ret2
          exact ⟨Hbr.out, g, cap, ms, _, rfl, Hown.out, .inl ⟨j, rfl, hj1, hj2, hj3, Hrd1.out⟩⟩
      · have hjl1 : ¬ (j : Int) < (s.length : Int) := by omega
        have hrd1 := hrd.out
        rw [List.drop_of_length_le (show s.length ≤ j by omega), rdAt_loop_nil (by omega)] at hrd1
        have Hrd1 : Hid (rdAt 4 6 4 (s.drop k) [] = some (s.drop j, ms)) := by unfold Hid; rw [hrd1, List.drop_of_length_le (show s.length ≤ j by omega)]
        clear hrd hrd1
        go_wp2
        go_ret2
        exact ⟨Hbr.out, g, cap, ms, _, rfl, Hown.out, .inl ⟨j, rfl, hj1, hj2, hj3, Hrd1.out⟩⟩
    · go_wp2
      go_ret2
      exact ⟨Hbr.out, g, cap, ms, _, rfl, Hown.out, .inr ⟨rfl, hj3, hrd.out⟩⟩
set_option maxRecDepth 100000 in
set_option maxHeartbeats 2000000 in
theorem l2Level5 (s : List UInt8) (hs : s.length ≤ 60) (k : Nat) (hk : k ≤ s.length) (h : ∀ k', k ≤ k' → k' ≤ s.length → LevC s 4 k') : LevC s 5 k := by
  intro w
  obtain ⟨im, hmi, hmz0, hmz1, hmz2⟩ := info_parts Tryd.infoM
  have Mi := Lib.hid hmi; clear hmi
  have Mz0 := Lib.hid hmz0; clear hmz0
  have Mz1 := Lib.hid hmz1; clear hmz1
  have Mz2 := Lib.hid hmz2; clear hmz2
  have H := Lib.hid h; clear h
  have H1 := Lib.hid (H.out k (Nat.le_refl _) hk w)
  have Hlev := Lib.hid (rdAt_level (nl := 4) (nd := 6) (k := 5) (by omega) (s.drop k) [])
  obtain ⟨wo, rfl⟩ : ∃ wo : World, wo = w := ⟨_, rfl⟩
  have hsg : ∀ h', (⟨#[38, 124, 61]⟩ : ByteArray)[2]'h' = 61 := fun _ => rfl
  go_enter Tryd.func37, Tryd.ntmps37
  go_wp2_with fail
  refine H1.out.mono ?_
  rintro e w1 ⟨hb1, g, cap, t, n, rfl, hown, hres⟩
  go_wp2_with fail
  go_loopw [9, 10] (fun t n wr => Below wo.heap.size wo wr ∧ ∃ (g cap : Nat) (ms : List (Int × Int)) (x : Int), t = .slice (some ⟨g, 0, none⟩) ms.length cap ∧ n = .int .i64 x ∧ wr.ownsRow wo.heap.size TM 2 (.slice (some ⟨g, 0, none⟩) ms.length cap) ms.length (mcells ms) ∧ ((∃ j : Nat, x = j ∧ k < j ∧ j ≤ s.length ∧ ms.length ≤ j - k ∧ Hid (rdAt 4 6 5 (s.drop k) [] = rdAt 4 6 15 (s.drop j) ms)) ∨ (x = -1 ∧ ms.length ≤ s.length - k ∧ Hid (rdAt 4 6 5 (s.drop k) [] = none)))) (fun _ n _ => leftOf s.length n)
  case atStart =>
    refine ⟨hb1, g, cap, t, n, rfl, rfl, hown, ?_⟩
    rcases hres with ⟨j, rfl, hj1, hj2, hj3, hrd⟩ | ⟨rfl, hj3, hrd⟩
    · exact .inl ⟨j, rfl, hj1, hj2, hj3, by unfold Hid; rw [Hlev.out, hrd]⟩
    · exact .inr ⟨rfl, hj3, by unfold Hid; rw [Hlev.out, hrd]⟩
  case round =>
    clear hb1 hown hres
    obtain ⟨hbr, g, cap, ms, x, rfl, rfl, hown, hres⟩ := hrel
    have Hbr := Lib.hid hbr
    have hsr := hbr.size
    have Hown := Lib.hid hown
    clear hbr hown
    rcases hres with ⟨j, rfl, hj1, hj2, hj3, hrd⟩ | ⟨rfl, hj3, hrd⟩
    · have hj0 : (0 : Int) ≤ (j : Int) := by omega
      by_cases hjl : j < s.length
      · obtain ⟨c, hd, hget⟩ := drop_at hjl
        have hjl1 : (j : Int) < (s.length : Int) := by omega
        have hw : IntKind.i64.wrap ((j : Int) + 1) = ((j + 1 : Nat) : Int) := by rw [IntWalk.i64_in _ (by omega)]; omega
        have hrd1 := hrd.out
        rw [hd, rdAt_loop (k := 5) (by omega), show ((5 : Nat) : Int) = (5 : Int) from rfl] at hrd1
        by_cases hc : c = sign 5
        · rw [if_pos hc] at hrd1
          have hcc : c = 61 := hc
          subst hcc
          rw [rdAt_frame (mode := 4) _ ms (by unfold Mode; omega)] at hrd1
          have Hrd1 := Lib.hid hrd1
          have Hj := Lib.hid (H.out (j + 1) (by omega) (by omega) wr)
          clear hrd hrd1 hd hc
          go_wp2_with fail
          refine Hj.out.mono ?_
          rintro e w2 ⟨hb2, g2, cap2, t2, n2, rfl, hown2, hres2⟩
          have htl : t2.length ≤ 60 := by rcases hres2 with ⟨i, rfl, h1, h2, h3, _⟩ | ⟨rfl, h3, _⟩ <;> omega
          have hml : ms.length ≤ 60 := by omega
          have Hres2 := Lib.hid hres2
          have Hb2 := Lib.hid (Hbr.out.trans (hb2.mono hsr))
          have hs2 := Hb2.out.size
          have Hown2 := Lib.hid hown2
          have Hms2 := Lib.hid (own_below Hown.out hb2)
          clear hb2 hown2 hres2
          go_wp2_with (first
            | (at_builtin; refine wpList_append_own _ rfl (.tmp 55) (.tmp 56) 23 rfl w2.heap.size TM im (.agg #[.int .i64 0, .int .i64 0]) 2 16 Tryd.underlying23 Mi.out Mz0.out Mz1.out Mz2.out rfl (by decide) (.slice (some ⟨w2.heap.size, 0, none⟩) 0 0) 0 [] rfl (World.ownsRow_made w2 #[] 0 (Nat.le_refl _) (by unfold maxLen; omega) rfl) ⟨g, 0, none⟩ ms.length cap (mcells ms) rfl (mcells_length _) ((Hms2.out.alloc _).cells (g := g) rfl) (mcells_one _) (by unfold maxLen; omega) (by omega) (by simp) ?_; intro v1 w5 hown1 hgr1 _; simp only [Nat.zero_add, List.nil_append] at hown1
               have hG5 : w2.grownBy w5 none := grown_own (only_alloc (World.grownBy.refl _ _) _) hgr1 (fun k hk => by simp [Value.ownBlock] at hk; omega)
               have hsz5 : w2.heap.size ≤ w5.heap.size := hG5.size
               have Hown25 := Lib.hid (own_none Hown2.out hG5)
               have HG5 := Lib.hid hG5; have Hown1 := Lib.hid hown1; clear hgr1 hG5 hown1)
            | (at_builtin; refine wpList_append_own _ rfl (.tmp 57) (.tmp 58) 23 rfl w2.heap.size TM im (.agg #[.int .i64 0, .int .i64 0]) 2 16 Tryd.underlying23 Mi.out Mz0.out Mz1.out Mz2.out rfl (by decide) v1 ms.length (mcells ms) rfl Hown1.out ⟨g2, 0, none⟩ t2.length cap2 (mcells t2) rfl (mcells_length _) (Hown25.out.cells (g := g2) rfl) (mcells_one _) (by unfold maxLen; omega) (by omega) (by omega) ?_; intro v2 w6 hown6 hgr6 _
               have hG6 : w2.grownBy w6 none := grown_own HG5.out hgr6 (fun k hk => (Hown1.out.lt k hk).1)
               have hsz6 : w2.heap.size ≤ w6.heap.size := hG6.size
               have HG6 := Lib.hid hG6; have Hown6 := Lib.hid hown6; clear hgr6 hG6 hown6)
            | (at_builtin; refine wpList_append_own _ rfl (.tmp 59) (.tmp 62) 23 rfl w2.heap.size TM im (.agg #[.int .i64 0, .int .i64 0]) 2 16 Tryd.underlying23 Mi.out Mz0.out Mz1.out Mz2.out rfl (by decide) v2 (ms.length + t2.length) (mcells ms ++ mcells t2) rfl (Hown6.out.alloc _) ⟨w6.heap.size, 0, none⟩ 1 1 (mcells [(5, 0)]) rfl rfl (news2 _ _ rfl _ _ _) (mcells_one _) (by unfold maxLen; omega) (by omega) (by simp; omega) ?_; intro v3 w7 hown7 hgr7 _
               have hG7 : w2.grownBy w7 none := grown_own (only_alloc HG6.out _) hgr7 (fun k hk => (Hown6.out.lt k hk).1)
               have Hb7 := Lib.hid (Hb2.out.trans ((below_none hG7).mono hs2))
               obtain ⟨g7, cap7, rfl⟩ := ownsRow_form hown7 (by omega)
               have Hown7 : Hid (w7.ownsRow wo.heap.size TM 2 (.slice (some ⟨g7, 0, none⟩) (ms ++ t2 ++ [(5, (0 : Int))]).length cap7) (ms ++ t2 ++ [(5, (0 : Int))]).length (mcells (ms ++ t2 ++ [(5, 0)]))) := by
                 unfold Hid
                 rw [mcells_append, mcells_append, List.length_append, List.length_append]
                 exact own_mono hown7 hs2
               clear hG7 hown7 hgr7)
            | fail)
          go_roundw
          case rel =>
            refine ⟨Hb7.out, g7, cap7, ms ++ t2 ++ [(5, 0)], n2, by rw [List.length_append, List.length_append]; rfl, rfl, Hown7.out, ?_⟩
            rcases Hres2.out with ⟨i, rfl, hi1, hi2, hi3, hrd2⟩ | ⟨rfl, hi3, hrd2⟩
            · exact .inl ⟨i, rfl, by omega, hi2, by simp; omega, by unfold Hid; rw [Hrd1.out, hrd2]; rfl⟩
            · exact .inr ⟨rfl, by simp; omega, by unfold Hid; rw [Hrd1.out, hrd2]; rfl⟩
          case measure =>
            rcases Hres2.out with ⟨i, rfl, hi1, hi2, hi3, hrd2⟩ | ⟨rfl, hi3, hrd2⟩
            · show leftOf s.length (.int .i64 (i : Int)) < leftOf s.length (.int .i64 (j : Int))
              rw [leftOf_nat, leftOf_nat]; omega
            · show leftOf s.length (.int .i64 (-1)) < leftOf s.length (.int .i64 (j : Int))
              rw [leftOf_nat, leftOf_neg]; omega
        · rw [if_neg hc, ← hd] at hrd1
          have Hrd1 := Lib.hid hrd1
          have hne : ¬ (c.toNat : Int) = 61 := by
            intro e; apply hc; apply UInt8.toNat_inj.1; show c.toNat = 61; omega
          clear hrd hrd1 hd hc H H1 Hlev
          go_wp2
          go_ret2
          exact ⟨Hbr.out, g, cap, ms, _, rfl, Hown.out, .inl ⟨j, rfl, hj1, hj2, hj3, Hrd1.out⟩⟩
      · have hjl1 : ¬ (j : Int) < (s.length : Int) := by omega
        have hrd1 := hrd.out
        rw [List.drop_of_length_le (show s.length ≤ j by omega), rdAt_loop_nil (by omega)] at hrd1
        have Hrd1 : Hid (rdAt 4 6 5 (s.drop k) [] = some (s.drop j, ms)) := by unfold Hid; rw [hrd1, List.drop_of_length_le (show s.length ≤ j by omega)]
        clear hrd hrd1
        go_wp2
        go_ret2
        exact ⟨Hbr.out, g, cap, ms, _, rfl, Hown.out, .inl ⟨j, rfl, hj1, hj2, hj3, Hrd1.out⟩⟩
    · go_wp2
      go_ret2
      exact ⟨Hbr.out, g, cap, ms, _, rfl, Hown.out, .inr ⟨rfl, hj3, hrd.out⟩⟩
theorem specLevels (s : List UInt8) (hs : s.length ≤ 60) : ∀ (n k : Nat), k ≤ s.length → s.length - k ≤ n → AtC s k ∧ LevC s 5 k := by
  have step : ∀ n, (∀ k, k ≤ s.length → s.length - k < n → AtC s k ∧ LevC s 5 k) → ∀ k, k ≤ s.length → s.length - k ≤ n → AtC s k ∧ LevC s 5 k := by
    intro n ih k hk hn
    have hat : ∀ k', k ≤ k' → k' ≤ s.length → AtC s k' := fun k' h1 h2 => l2AtomC s hs k' h2 (fun h3 => ih (k' + 1) (by omega) (by omega))
    have h3 : ∀ k', k ≤ k' → k' ≤ s.length → LevC s 3 k' := fun k' h1 h2 => l2Level3 s hs k' h2 (fun k2 h4 h5 => l2Level2 s k2 (hat k2 (by omega) h5))
    have h4 : ∀ k', k ≤ k' → k' ≤ s.length → LevC s 4 k' := fun k' h1 h2 => l2Level4 s hs k' h2 (fun k2 h4 h5 => h3 k2 (by omega) h5)
    exact ⟨hat k (Nat.le_refl _) hk, l2Level5 s hs k hk (fun k2 h5 h6 => h4 k2 h5 h6)⟩
  intro n
  induction n with
  | zero => exact step 0 (fun k hk h => by omega)
  | succ n ih => exact step (n + 1) (fun k hk h => ih k hk (by omega))
theorem specLevel5 (s : List UInt8) (hs : s.length ≤ 60) : LevC s 5 0 := (specLevels s hs s.length 0 (Nat.zero_le _) (by omega)).2
end Go.Proofs.YtmcdfbjmbelklaaDoor

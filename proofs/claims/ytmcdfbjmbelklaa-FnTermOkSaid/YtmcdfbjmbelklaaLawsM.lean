/- The first law of chapter 2: one person is a term. It answers true, whatever the code. No condition. -/
import Derived.Test.YtmcdfbjmbelklaaDrawN
import Derived.Test.YtmcdfbjmbelklaaMarksC
import Derived.Test.YtmcdfbjmbelklaaFrameM
namespace Go.Proofs.Ytmcdfbjmbelklaa
open Go.RowKit Go.Joins
theorem termOk_of_tm {p : Int} {ms : List (Int × Int)} (h1 : 1 ≤ p) (h4 : p ≤ 4) (hl : ms.length ≤ 15) (t : Tm) (ht : t.ok p) (he : ms = t.post) : termOk p ms = true := termOk_iff.2 ⟨⟨h1, h4⟩, hl, t, ht, he⟩
theorem term_last {p : Int} (h1 : 1 ≤ p) (h4 : p ≤ 4) : termOk p [(0, p - 1)] = true := termOk_of_tm h1 h4 (by simp) (.leaf 0 (p - 1)) (.inl ⟨rfl, by omega, by omega⟩) rfl
theorem term_past {p : Int} : termOk p [(0, p)] = false := by
  cases h : termOk p [(0, p)] with
  | false => rfl
  | true =>
    have := termOk_mkOk h (0, p) (by simp)
    simp [mkOk] at this
theorem term_nobody {p : Int} (h1 : 1 ≤ p) (h4 : p ≤ 4) : termOk p [(1, 0)] = true := termOk_of_tm h1 h4 (by simp) (.leaf 1 0) (.inr ⟨rfl, by omega, by omega⟩) rfl
theorem term_more {p : Int} (h1 : 1 ≤ p) (h4 : p ≤ 4) : termOk p [(1, p + 1)] = true := termOk_of_tm h1 h4 (by simp) (.leaf 1 (p + 1)) (.inr ⟨rfl, by omega, by omega⟩) rfl
theorem term_same {p : Int} {ms : List (Int × Int)} (h : termOk p ms = true) (hl : ms.length ≤ 13) : termOk p (ms ++ [(0, 0), (5, 0)]) = true := by
  obtain ⟨⟨h1, h4⟩, _, t, ht, rfl⟩ := termOk_iff.1 h
  exact termOk_of_tm h1 h4 (by simp; omega) (.bin 5 t (.leaf 0 0)) ⟨by omega, by omega, ht, .inl ⟨rfl, by omega, by omega⟩⟩ (by simp [Tm.post])
theorem term_not {p : Int} {ms : List (Int × Int)} (h : termOk p ms = true) (hl : ms.length ≤ 13) : termOk p (ms ++ [(2, 0)]) = true := by
  obtain ⟨⟨h1, h4⟩, _, t, ht, rfl⟩ := termOk_iff.1 h
  exact termOk_of_tm h1 h4 (by simp; omega) (.un t) ht rfl
/-- a row of one mark, just laid -/
theorem RdMarks.one (w : World) (k x : Int) (T : TypeId) (hk : I64 k) (hx : I64 x) : RdMarks (w.alloc (.cells #[.int .i64 k, .int .i64 x] T)) (w.heap.size + 1) (.slice (some ⟨w.heap.size, 0, none⟩) 1 1) [(k, x)] := by
  refine ⟨_, 1, rfl, Nat.le_refl _, by unfold maxLen; omega, I64s_one hk hx, fun j hj => ⟨w.heap.size, 0, rfl, by omega, ?_, ?_⟩⟩
  all_goals
    have : j = 0 := by simpa using hj
    subst this
    rw [cell_of_row _ _ _ _ _ (0, 0) (heap_alloc_new w _)]
    rfl
theorem RdMarks.kept {w w' : World} {v : Value} {ms : List (Int × Int)} (h : RdMarks w w.heap.size v ms) (hb : Below w.heap.size w w') : RdMarks w' w'.heap.size v ms := (h.below hb.block).mono hb.size
theorem own_none {w w' : World} {base size n : Nat} {e : TypeId} {v : Value} {xs : List Value} (h : w.ownsRow base e size v n xs) (hg : w.grownBy w' none) : w'.ownsRow base e size v n xs := by
  refine h.kept hg ?_
  cases v.ownBlock with
  | none => exact .inl rfl
  | some g => exact .inr (by simp)
theorem I64s_two {k x l y : Int} (hk : I64 k) (hx : I64 x) (hl : I64 l) (hy : I64 y) : I64s [(k, x), (l, y)] := by
  intro m hm
  simp at hm
  rcases hm with rfl | rfl
  · exact ⟨hk, hx⟩
  · exact ⟨hl, hy⟩
theorem below_none {w w' : World} (hg : w.grownBy w' none) : Below w.heap.size w w' := ⟨hg.os, hg.tape, hg.output, hg.size, fun i hi => hg.block i hi (by simp)⟩
theorem news4 (W : World) (g : Nat) (hg : g = W.heap.size) (k x l y : Int) (T : TypeId) : ∀ (j : Nat) (u' : Value), (mcells [(k, x), (l, y)])[j]? = some u' → (W.alloc (.cells #[.int .i64 k, .int .i64 x, .int .i64 l, .int .i64 y] T)).cell? ((⟨g, 0, none⟩ : Addr).add j) = some u' := by
  subst hg
  exact World.news_of_block (cs := #[.int .i64 k, .int .i64 x, .int .i64 l, .int .i64 y]) (t := T) (fr := (0, 0)) (heap_alloc_new W _)
end Go.Proofs.Ytmcdfbjmbelklaa

namespace Go.Proofs.Ytmcdfbjmbelklaa.fnTermOk
open Go.ChangeShapes Go.WideShapes Go.ChangeAt Go.RowKit Go.Joins
open Go.ChangeMaps (open_string shut_string)
set_option linter.unusedVariables false
set_option maxRecDepth 100000 in
set_option maxHeartbeats 2000000 in
theorem walk (a0 : Value) (n0 : Nat) (w : World) (w0 : RdBytes w w.heap.size a0 n0) :
    Calls Try.prog 5 #[a0] w fun e w' => e = .returned (.bool true) ∧ Below w.heap.size w w' := by
  have hr := w0
  by_cases hbig : n0 ≤ 1048576
  case neg =>
    obtain ⟨ao, cap, rfl, hl, hm, hc⟩ := w0
    have hbig' := code_big hbig
    unfold maxLen at hm
    clear hc hr hbig
    go_enter Try.func5, Try.ntmps5
    go_wp2
    go_ret
    exact ⟨rfl, Below.refl _ _⟩
  have hbig' : (n0 : Int) ≤ 1048576 := by omega
  clear hbig
  obtain ⟨ao, cap, rfl, hl, hm, hc⟩ := w0
  have Hr := Lib.hid hr
  clear hc hr hl hm
  go_enter Try.func5, Try.ntmps5
  go_wp2_with fail
  refine (drawTermOk _ _ _ Hr.out).mono ?_
  rintro e w1 ⟨p, g, n, cp, ms, hp1, hp8, rfl, hlen, hown, hi, hn, hB⟩
  have Hlen := Lib.hid hlen; clear hlen
  have Hi := Lib.hid hi; clear hi
  have hrd : RdMarks w1 w1.heap.size (.slice (some ⟨g, 0, none⟩) n cp) ms := by
    have h0 := RdMarks.of_own (ms := ms) (v := .slice (some ⟨g, 0, none⟩) n cp) (e := TM) (base := w.heap.size) (by rw [Hlen.out]; exact hown) Hi.out
    exact h0
  have Hown1 := Lib.hid hown; clear hown
  have Hrd1 := Lib.hid hrd; clear hrd
  obtain ⟨im, hmi, hmz0, hmz1, hmz2⟩ := info_parts Try.infoM
  have Mi := Lib.hid hmi; clear hmi
  have Mz0 := Lib.hid hmz0; clear hmz0
  have Mz1 := Lib.hid hmz1; clear hmz1
  have Mz2 := Lib.hid hmz2; clear hmz2
  have hB1 := hB; clear hB
  go_wp2_with fail
  refine (implTermOk _ ms _ _ _ Hrd1.out (Nat.le_refl _)).mono ?_
  rintro e w2 ⟨rfl, hb2⟩
  have Hrd2 := Lib.hid (Hrd1.out.kept hb2)
  have Hown2 := Lib.hid (own_below Hown1.out hb2)
  have hB2 : Below w.heap.size w w2 := hB1.trans (hb2.mono hB1.size)
  clear hb2 Hrd1 Hown1
  cases hok : termOk p ms with
  | false =>
    have Hok := Lib.hid hok; clear hok
    go_wp2_with fail
    refine (specTermOk _ ms _ _ _ Hrd2.out).mono ?_
    rintro e w2' ⟨rfl, rfl⟩
    rw [Hok.out]
    by_cases hp : p ≤ 4
    · go_wp2_with (first
        | (at_builtin
           refine wpList_append_own _ rfl (.tmp 35) (.tmp 36) 35 rfl w2.heap.size TM im (.agg #[.int .i64 0, .int .i64 0]) 2 16 Try.underlying35 Mi.out Mz0.out Mz1.out Mz2.out rfl (by decide) (.slice (some ⟨w2.heap.size, 0, none⟩) 0 0) 0 [] rfl (World.ownsRow_made w2 #[] 0 (Nat.le_refl _) (Nat.zero_le _) rfl) ⟨g, 0, none⟩ n _ (mcells ms) rfl ?_ ((Hown2.out.alloc _).cells (g := g) rfl) (mcells_one _) (by unfold maxLen; omega) (by omega) ?_ ?_
           go_must (rw [mcells_length, Hlen.out])
           go_must (simp)
           go_must (intro v37 w37 hown37 hgr37 _
                    simp only [Nat.zero_add, List.nil_append] at hown37
                    have hG37 : w2.grownBy w37 none := grown_own (only_alloc (World.grownBy.refl _ _) _) hgr37 (fun k hk => by simp [Value.ownBlock] at hk; omega)
                    have hs37 := hG37.size
                    have HG37 := Lib.hid hG37
                    have Hown37 := Lib.hid hown37
                    clear hG37 hgr37 hown37))
        | (at_builtin
           refine wpList_append_own _ rfl (.tmp 37) (.tmp 40) 35 rfl w2.heap.size TM im (.agg #[.int .i64 0, .int .i64 0]) 2 16 Try.underlying35 Mi.out Mz0.out Mz1.out Mz2.out rfl (by decide) v37 n (mcells ms) rfl (Hown37.out.alloc _) ⟨w37.heap.size, 0, none⟩ 2 _ (mcells [(0, 0), (5, 0)]) rfl ?_ (news4 _ _ rfl _ _ _ _ _) (mcells_one _) (by unfold maxLen; omega) (by omega) ?_ ?_
           go_must (rfl)
           go_must (simp; omega)
           go_must (intro v41 w41 hown41 hgr41 _
                    have hG41 : w2.grownBy w41 none := grown_own (only_alloc HG37.out _) hgr41 (fun k hk => (Hown37.out.lt k hk).1)
                    have hs41 := hG41.size
                    have hr41 := RdMarks.of_own (ms := ms ++ [(0, 0), (5, 0)]) (by rw [mcells_append, List.length_append, Hlen.out]; exact hown41) (I64s_append Hi.out (I64s_two (I64_small (by omega) (by omega)) (I64_small (by omega) (by omega)) (I64_small (by omega) (by omega)) (I64_small (by omega) (by omega))))
                    have Hr41 := Lib.hid hr41
                    have Hown41 := Lib.hid (own_none Hown2.out hG41)
                    have HG41 := Lib.hid hG41
                    clear hr41 hG41 hgr41 hown41))
        | (at_builtin
           refine wpList_append_own _ rfl (.tmp 42) (.tmp 43) 35 rfl w41.heap.size TM im (.agg #[.int .i64 0, .int .i64 0]) 2 16 Try.underlying35 Mi.out Mz0.out Mz1.out Mz2.out rfl (by decide) (.slice (some ⟨w41.heap.size, 0, none⟩) 0 0) 0 [] rfl (World.ownsRow_made w41 #[] 0 (Nat.le_refl _) (Nat.zero_le _) rfl) ⟨g, 0, none⟩ n _ (mcells ms) rfl ?_ ((Hown41.out.alloc _).cells (g := g) rfl) (mcells_one _) (by unfold maxLen; omega) (by omega) ?_ ?_
           go_must (rw [mcells_length, Hlen.out])
           go_must (simp)
           go_must (intro v44 w44 hown44 hgr44 _
                    simp only [Nat.zero_add, List.nil_append] at hown44
                    have hG44 : w41.grownBy w44 none := grown_own (only_alloc (World.grownBy.refl _ _) _) hgr44 (fun k hk => by simp [Value.ownBlock] at hk; omega)
                    have hs44 := hG44.size
                    have HG44 := Lib.hid hG44
                    have Hown44 := Lib.hid hown44
                    clear hG44 hgr44 hown44))
        | (at_builtin
           refine wpList_append_own _ rfl (.tmp 44) (.tmp 46) 35 rfl w41.heap.size TM im (.agg #[.int .i64 0, .int .i64 0]) 2 16 Try.underlying35 Mi.out Mz0.out Mz1.out Mz2.out rfl (by decide) v44 n (mcells ms) rfl (Hown44.out.alloc _) ⟨w44.heap.size, 0, none⟩ 1 _ (mcells [(2, 0)]) rfl ?_ (news2 _ _ rfl _ _ _) (mcells_one _) (by unfold maxLen; omega) (by omega) ?_ ?_
           go_must (rfl)
           go_must (simp; omega)
           go_must (intro v47 w47 hown47 hgr47 _
                    have hG47 : w41.grownBy w47 none := grown_own (only_alloc HG44.out _) hgr47 (fun k hk => (Hown44.out.lt k hk).1)
                    have Hr47 := Lib.hid (RdMarks.of_own (ms := ms ++ [(2, 0)]) (by rw [mcells_append, List.length_append, Hlen.out]; exact hown47) (I64s_append Hi.out (I64s_one (I64_small (by omega) (by omega)) (I64_small (by omega) (by omega)))))
                    have Hr41' := Lib.hid (Hr41.out.kept (below_none hG47))
                    have hB47 : Below w.heap.size w w47 := hB2.trans ((below_none (HG41.out)).mono hB2.size |>.trans ((below_none hG47).mono (Nat.le_trans hB2.size hs41)))
                    clear hG47 hgr47 hown47))
        | fail)
      clear Hown2 HG37 Hown37 Hr41 Hown41 HG41 HG44 Hown44
      go_wp2_with fail
      refine (implTermOk _ [(0, (p - 1))] _ _ _ (RdMarks.one w47 0 (p - 1) _ (I64_small (by omega) (by omega)) (I64_small (by omega) (by omega))) (by simp)).mono ?_
      rintro e w50 ⟨rfl, hb50⟩
      have hB50 : Below w.heap.size w w50 := (hB47.alloc hB47.size _).trans (hb50.mono (by simp; have := hB47.size; omega))
      have hS50 : Below w47.heap.size w47 w50 := ((Below.refl _ _).alloc (Nat.le_refl _) _).trans (hb50.mono (by simp))
      rw [term_last hp1 hp]
      clear hb50
      go_wp2_with fail
      refine (implTermOk _ [(0, p)] _ _ _ (RdMarks.one w50 0 p _ (I64_small (by omega) (by omega)) (I64_small (by omega) (by omega))) (by simp)).mono ?_
      rintro e w51 ⟨rfl, hb51⟩
      have hB51 : Below w.heap.size w w51 := (hB50.alloc hB50.size _).trans (hb51.mono (by simp; have := hB50.size; omega))
      have hS51 : Below w50.heap.size w50 w51 := ((Below.refl _ _).alloc (Nat.le_refl _) _).trans (hb51.mono (by simp))
      rw [term_past]
      clear hb51
      go_wp2_with fail
      refine (implTermOk _ [(1, 0)] _ _ _ (RdMarks.one w51 1 0 _ (I64_small (by omega) (by omega)) (I64_small (by omega) (by omega))) (by simp)).mono ?_
      rintro e w52 ⟨rfl, hb52⟩
      have hB52 : Below w.heap.size w w52 := (hB51.alloc hB51.size _).trans (hb52.mono (by simp; have := hB51.size; omega))
      have hS52 : Below w51.heap.size w51 w52 := ((Below.refl _ _).alloc (Nat.le_refl _) _).trans (hb52.mono (by simp))
      rw [term_nobody hp1 hp]
      clear hb52
      go_wp2_with fail
      refine (implTermOk _ [(1, (p + 1))] _ _ _ (RdMarks.one w52 1 (p + 1) _ (I64_small (by omega) (by omega)) (I64_small (by omega) (by omega))) (by simp)).mono ?_
      rintro e w53 ⟨rfl, hb53⟩
      have hB53 : Below w.heap.size w w53 := (hB52.alloc hB52.size _).trans (hb53.mono (by simp; have := hB52.size; omega))
      have hS53 : Below w52.heap.size w52 w53 := ((Below.refl _ _).alloc (Nat.le_refl _) _).trans (hb53.mono (by simp))
      rw [term_more hp1 hp]
      clear hb53
      go_wp2
      go_ret
      exact ⟨rfl, hB53⟩
    · have hp' : 4 < p := by omega
      clear hp
      go_wp2_with fail
      refine (alive _).mono ?_
      rintro e w' ⟨rfl, rfl⟩
      go_wp2
      go_ret
      exact ⟨rfl, hB2⟩
  | true =>
    have Hok := Lib.hid hok; clear hok
    have hp : p ≤ 4 := (termOk_iff.1 Hok.out).1.2
    go_wp2_with fail
    refine (specTermOk _ ms _ _ _ Hrd2.out).mono ?_
    rintro e w2' ⟨rfl, rfl⟩
    rw [Hok.out]
    go_wp2_with (first
      | (at_builtin
         refine wpList_append_own _ rfl (.tmp 35) (.tmp 36) 35 rfl w2.heap.size TM im (.agg #[.int .i64 0, .int .i64 0]) 2 16 Try.underlying35 Mi.out Mz0.out Mz1.out Mz2.out rfl (by decide) (.slice (some ⟨w2.heap.size, 0, none⟩) 0 0) 0 [] rfl (World.ownsRow_made w2 #[] 0 (Nat.le_refl _) (Nat.zero_le _) rfl) ⟨g, 0, none⟩ n _ (mcells ms) rfl ?_ ((Hown2.out.alloc _).cells (g := g) rfl) (mcells_one _) (by unfold maxLen; omega) (by omega) ?_ ?_
         go_must (rw [mcells_length, Hlen.out])
         go_must (simp)
         go_must (intro v37 w37 hown37 hgr37 _
                  simp only [Nat.zero_add, List.nil_append] at hown37
                  have hG37 : w2.grownBy w37 none := grown_own (only_alloc (World.grownBy.refl _ _) _) hgr37 (fun k hk => by simp [Value.ownBlock] at hk; omega)
                  have hs37 := hG37.size
                  have HG37 := Lib.hid hG37
                  have Hown37 := Lib.hid hown37
                  clear hG37 hgr37 hown37))
      | (at_builtin
         refine wpList_append_own _ rfl (.tmp 37) (.tmp 40) 35 rfl w2.heap.size TM im (.agg #[.int .i64 0, .int .i64 0]) 2 16 Try.underlying35 Mi.out Mz0.out Mz1.out Mz2.out rfl (by decide) v37 n (mcells ms) rfl (Hown37.out.alloc _) ⟨w37.heap.size, 0, none⟩ 2 _ (mcells [(0, 0), (5, 0)]) rfl ?_ (news4 _ _ rfl _ _ _ _ _) (mcells_one _) (by unfold maxLen; omega) (by omega) ?_ ?_
         go_must (rfl)
         go_must (simp; omega)
         go_must (intro v41 w41 hown41 hgr41 _
                  have hG41 : w2.grownBy w41 none := grown_own (only_alloc HG37.out _) hgr41 (fun k hk => (Hown37.out.lt k hk).1)
                  have hs41 := hG41.size
                  have hr41 := RdMarks.of_own (ms := ms ++ [(0, 0), (5, 0)]) (by rw [mcells_append, List.length_append, Hlen.out]; exact hown41) (I64s_append Hi.out (I64s_two (I64_small (by omega) (by omega)) (I64_small (by omega) (by omega)) (I64_small (by omega) (by omega)) (I64_small (by omega) (by omega))))
                  have Hr41 := Lib.hid hr41
                  have Hown41 := Lib.hid (own_none Hown2.out hG41)
                  have HG41 := Lib.hid hG41
                  clear hr41 hG41 hgr41 hown41))
      | (at_builtin
         refine wpList_append_own _ rfl (.tmp 42) (.tmp 43) 35 rfl w41.heap.size TM im (.agg #[.int .i64 0, .int .i64 0]) 2 16 Try.underlying35 Mi.out Mz0.out Mz1.out Mz2.out rfl (by decide) (.slice (some ⟨w41.heap.size, 0, none⟩) 0 0) 0 [] rfl (World.ownsRow_made w41 #[] 0 (Nat.le_refl _) (Nat.zero_le _) rfl) ⟨g, 0, none⟩ n _ (mcells ms) rfl ?_ ((Hown41.out.alloc _).cells (g := g) rfl) (mcells_one _) (by unfold maxLen; omega) (by omega) ?_ ?_
         go_must (rw [mcells_length, Hlen.out])
         go_must (simp)
         go_must (intro v44 w44 hown44 hgr44 _
                  simp only [Nat.zero_add, List.nil_append] at hown44
                  have hG44 : w41.grownBy w44 none := grown_own (only_alloc (World.grownBy.refl _ _) _) hgr44 (fun k hk => by simp [Value.ownBlock] at hk; omega)
                  have hs44 := hG44.size
                  have HG44 := Lib.hid hG44
                  have Hown44 := Lib.hid hown44
                  clear hG44 hgr44 hown44))
      | (at_builtin
         refine wpList_append_own _ rfl (.tmp 44) (.tmp 46) 35 rfl w41.heap.size TM im (.agg #[.int .i64 0, .int .i64 0]) 2 16 Try.underlying35 Mi.out Mz0.out Mz1.out Mz2.out rfl (by decide) v44 n (mcells ms) rfl (Hown44.out.alloc _) ⟨w44.heap.size, 0, none⟩ 1 _ (mcells [(2, 0)]) rfl ?_ (news2 _ _ rfl _ _ _) (mcells_one _) (by unfold maxLen; omega) (by omega) ?_ ?_
         go_must (rfl)
         go_must (simp; omega)
         go_must (intro v47 w47 hown47 hgr47 _
                  have hG47 : w41.grownBy w47 none := grown_own (only_alloc HG44.out _) hgr47 (fun k hk => (Hown44.out.lt k hk).1)
                  have Hr47 := Lib.hid (RdMarks.of_own (ms := ms ++ [(2, 0)]) (by rw [mcells_append, List.length_append, Hlen.out]; exact hown47) (I64s_append Hi.out (I64s_one (I64_small (by omega) (by omega)) (I64_small (by omega) (by omega)))))
                  have Hr41' := Lib.hid (Hr41.out.kept (below_none hG47))
                  have hB47 : Below w.heap.size w w47 := hB2.trans ((below_none (HG41.out)).mono hB2.size |>.trans ((below_none hG47).mono (Nat.le_trans hB2.size hs41)))
                  clear hG47 hgr47 hown47))
      | fail)
    clear Hown2 HG37 Hown37 Hr41 Hown41 HG41 HG44 Hown44
    go_wp2_with fail
    refine (implTermOk _ [(0, (p - 1))] _ _ _ (RdMarks.one w47 0 (p - 1) _ (I64_small (by omega) (by omega)) (I64_small (by omega) (by omega))) (by simp)).mono ?_
    rintro e w50 ⟨rfl, hb50⟩
    have hB50 : Below w.heap.size w w50 := (hB47.alloc hB47.size _).trans (hb50.mono (by simp; have := hB47.size; omega))
    have hS50 : Below w47.heap.size w47 w50 := ((Below.refl _ _).alloc (Nat.le_refl _) _).trans (hb50.mono (by simp))
    rw [term_last hp1 hp]
    clear hb50
    go_wp2_with fail
    refine (implTermOk _ [(0, p)] _ _ _ (RdMarks.one w50 0 p _ (I64_small (by omega) (by omega)) (I64_small (by omega) (by omega))) (by simp)).mono ?_
    rintro e w51 ⟨rfl, hb51⟩
    have hB51 : Below w.heap.size w w51 := (hB50.alloc hB50.size _).trans (hb51.mono (by simp; have := hB50.size; omega))
    have hS51 : Below w50.heap.size w50 w51 := ((Below.refl _ _).alloc (Nat.le_refl _) _).trans (hb51.mono (by simp))
    rw [term_past]
    clear hb51
    go_wp2_with fail
    refine (implTermOk _ [(1, 0)] _ _ _ (RdMarks.one w51 1 0 _ (I64_small (by omega) (by omega)) (I64_small (by omega) (by omega))) (by simp)).mono ?_
    rintro e w52 ⟨rfl, hb52⟩
    have hB52 : Below w.heap.size w w52 := (hB51.alloc hB51.size _).trans (hb52.mono (by simp; have := hB51.size; omega))
    have hS52 : Below w51.heap.size w51 w52 := ((Below.refl _ _).alloc (Nat.le_refl _) _).trans (hb52.mono (by simp))
    rw [term_nobody hp1 hp]
    clear hb52
    go_wp2_with fail
    refine (implTermOk _ [(1, (p + 1))] _ _ _ (RdMarks.one w52 1 (p + 1) _ (I64_small (by omega) (by omega)) (I64_small (by omega) (by omega))) (by simp)).mono ?_
    rintro e w53 ⟨rfl, hb53⟩
    have hB53 : Below w.heap.size w w53 := (hB52.alloc hB52.size _).trans (hb53.mono (by simp; have := hB52.size; omega))
    have hS53 : Below w52.heap.size w52 w53 := ((Below.refl _ _).alloc (Nat.le_refl _) _).trans (hb53.mono (by simp))
    rw [term_more hp1 hp]
    clear hb53
    by_cases h13 : n ≤ 13
    · have h13' : (n : Int) ≤ 13 := by omega
      have hlen13 : ms.length ≤ 13 := by rw [Hlen.out]; exact h13
      have Hr41a := Lib.hid (((((Hr41'.out.kept hS50).kept hS51).kept hS52).kept hS53))
      have Hr47a := Lib.hid (((((Hr47.out.kept hS50).kept hS51).kept hS52).kept hS53))
      have Hsame := Lib.hid (term_same Hok.out hlen13)
      have Hnot := Lib.hid (term_not Hok.out hlen13)
      clear Hr41' Hr47 hS50 hS51 hS52 hS53
      go_wp2_with fail
      refine (implTermOk _ (ms ++ [(0, 0), (5, 0)]) _ _ _ Hr41a.out (Nat.le_refl _)).mono ?_
      rintro e w54 ⟨rfl, hb54⟩
      have Hr47b := Lib.hid (Hr47a.out.kept hb54)
      have hB54 : Below w.heap.size w w54 := hB53.trans (hb54.mono hB53.size)
      rw [Hsame.out]
      clear hb54 Hr47a
      go_wp2_with fail
      refine (implTermOk _ (ms ++ [(2, 0)]) _ _ _ Hr47b.out (Nat.le_refl _)).mono ?_
      rintro e w55 ⟨rfl, hb55⟩
      have hB55 : Below w.heap.size w w55 := hB54.trans (hb55.mono hB54.size)
      rw [Hnot.out]
      clear hb55
      go_wp2
      go_ret
      exact ⟨rfl, hB55⟩
    · have h13' : (13 : Int) < (n : Int) := by omega
      go_wp2
      go_ret
      exact ⟨rfl, hB53⟩

set_option maxRecDepth 100000 in
theorem lifted (os : Os) (started : os.Started) (H : Type) (enc : TypeId × Value → H) :
    ReturnsInHanded {} Try.checked os 5 .any (Rows.fnTermOkSpec.pre6 enc Try.prog Try.f5 Rows.fnTermOkRow.domain false) (Rows.fnTermOkSpec.post enc Try.prog Try.f5 false true false false) := by
  refine returnsInHanded_of_change (C := Try.checked) Try.own started (by kernel_rfl) Try.func5
    (ChangeSpec.witness6 (enc := enc) (C := Try.checked) false ⟨#[], #[.slice none 0 0], []⟩ 8 (by kernel_rfl) (by kernel_rfl) (by kernel_rfl) (by kernel_rfl)) ?_
  intro W base args ds gs before hval0 hW hcnd _
  have hval : ∀ (j : Nat) t v, Try.f5.params[j]? = some t → args[j]? = some v → Value.okWide Try.prog W .any base t v := hval0
  have hW' := hW
  obtain ⟨p, q, hA0, hV, rfl, hfz, hnd⟩ := hW
  have hA : DataW.TrodAll enc Try.prog W 0 (fun _ => true) true Try.f5.params.toList args.toList ds p := hA0
  rw [Try.params5] at hA hval
  obtain ⟨v0, vs0, d0, ds0, p0, q0, hargs, rfl, rfl, h0, r0⟩ := trodAll_cons hA
  obtain ⟨rfl, rfl, rfl⟩ := trodAll_nil r0
  obtain rfl : args = #[v0] := by cases args; simp_all
  obtain ⟨rfl, rfl⟩ := trodVars_none hV
  obtain ⟨a0, len0, cap0, rfl⟩ := okWide_slice Try.underlying22 (hval 0 22 v0 rfl rfl)
  have k0 := h0
  have lt0 : ∀ x ∈ p0, x.block < W.heap.size := by obtain ⟨m, hm⟩ := k0; exact DataW.trod_lt m _ _ _ hm
  obtain ⟨z0, w0⟩ : ∃ zs, IsRow .u8 W a0 len0 cap0 zs := by
    obtain ⟨fuel, hf⟩ := h0
    rcases open_ints Try.underlying22 Try.underlying5 (by kernel_rfl) hf with ⟨hcs, _⟩ | ⟨x, l, c, zs, hcs, _, hl, hm, hz, _, hcell, hwz⟩
    · simp [Value.cells] at hcs
      obtain ⟨rfl, rfl, rfl⟩ := hcs
      exact ⟨[], .inl ⟨rfl, rfl, rfl, rfl⟩⟩
    · simp [Value.cells] at hcs
      obtain ⟨rfl, rfl, rfl⟩ := hcs
      exact ⟨zs, .inr ⟨_, rfl, hl, hm, by simpa using hz, hcell, hwz⟩⟩
  clear hA0 hval0
  refine (walk _ _ W (RdBytes.of_row w0)).mono fun e W' ⟨he, bel⟩ => ?_
  subst he
  exact ⟨_, rfl, _, _, _, [], _, [], hW', trodAll_mk1 (shut_bool Try.underlying4 _), (trodAll_cons_mk (Below.trod Try.laidOut (by kernel_rfl) (of_decide_eq_true (by kernel_rfl)) k0 bel lt0) trodAll_mk0), rfl, bel.frame _, fun h => by cases h⟩

theorem closed : joinedFacts Try.pinned.checked.prog 5 Try.f5 Rows.fnTermOkSpec Rows.fnTermOkRow = true := by
  unfold joinedFacts
  exact (and_tt (and_tt (and_tt (and_tt (and_tt (and_tt (and_tt (and_tt (and_tt (and_tt (and_tt (and_tt (and_tt (and_tt (and_tt (and_tt (and_tt (and_tt (and_tt (and_tt (and_tt (and_tt (and_tt (and_tt (and_tt (and_tt (and_tt (and_tt (and_tt (and_tt (and_tt (by kernel_rfl) (by kernel_rfl)) (by kernel_rfl)) (by kernel_rfl)) (by kernel_rfl)) (by kernel_rfl)) (by kernel_rfl)) (by kernel_rfl)) (by kernel_rfl)) (by kernel_rfl)) (by kernel_rfl)) (by kernel_rfl)) (by kernel_rfl)) (by kernel_rfl)) (by kernel_rfl)) (by kernel_rfl)) (by kernel_rfl)) (by kernel_rfl)) (by kernel_rfl)) (by kernel_rfl)) (by kernel_rfl)) (by kernel_rfl)) (by kernel_rfl)) (by kernel_rfl)) (by kernel_rfl)) Try.mayEnter0) (lifted_tt Try.lifts0 rfl)) (make_tt Try.make0 rfl)) (by kernel_rfl)) (by kernel_rfl)) (by kernel_rfl)) (by kernel_rfl))
theorem over : Rows.fnTermOkRow.holds Try.pinned (OpenSpec.ofChange Rows.fnTermOkSpec) :=
  OpenClaim.holds_of_wide 5 Try.f5 rfl rfl rfl rfl rfl rfl rfl ⟨rfl, rfl, rfl, rfl, rfl⟩ rfl rfl rfl rfl rfl (by kernel_rfl) Try.func5 closed
    (of_decide_eq_true (by kernel_rfl)) (by unfold Func.isWrapper; first | (rw [if_pos (by decide +kernel)]; kernel_rfl) | (rw [if_neg (by decide +kernel)]; exact ⟨rfl, rfl⟩))
    (fun os started H enc _ => lifted os started H enc)

theorem proved : Rows.FnTermOkSaid := over
end Go.Proofs.Ytmcdfbjmbelklaa.fnTermOk


/- Contracts of the reference's stories with one answer: clashes, only worlds, known people. -/
import Derived.Test.YtncihjelpaiocaaOne
namespace Go.Proofs.Ytncihjelpaiocaa
open Go.RowKit Go.Joins
attribute [local irreducible] holds tabN tabV holdsV sameV followsV alwaysV matterV claimOk mayT mayV ctabV ctabN storyV storyOk storyN storyT ctermV ctermL clashV onlyOk onlyN knownF knownL knownK cntK swl needB needF needL leastR leastV
set_option maxHeartbeats 1000000 in
theorem specClashOk (p : Int) (qs : List QC) (B : Nat) (v : Value) (w : World) (hr : RdStory w B v qs) (hB : B ≤ w.heap.size) :
    Calls Try.prog 16 #[.int .i64 p, v] w fun e w' => e = .returned (.bool (clashV p (qs.map (·.2)))) ∧ Below w.heap.size w w' := by
  have hc := fun w h hB => specStoryOk p qs B v w h hB
  cases hok : storyOk p (qs.map (·.2)) with
  | false =>
    have Hf := Lib.hid (clash_no hok)
    rw [hok] at hc
    have Hc := Lib.hid hc; clear hc hok
    go_enter Try.func16, Try.ntmps16
    go_wp2_with fail
    refine (Hc.out _ hr hB).mono ?_
    rintro e w2 ⟨rfl, hb2⟩
    have Hb2 := Lib.hid hb2; clear hb2
    go_wp2
    go_ret
    exact ⟨by rw [Hf.out]; rfl, Hb2.out⟩
  | true =>
    have Hf := Lib.hid (clash_yes hok)
    have Hm := Lib.hid (fun w h hB => specStoryTab p qs hok B v w h hB)
    rw [hok] at hc
    have Hc := Lib.hid hc; clear hc hok
    generalize storyN p (qs.map (·.2)) = T at *
    go_enter Try.func16, Try.ntmps16
    go_wp2_with fail
    refine (Hc.out _ hr hB).mono ?_
    rintro e w2 ⟨rfl, hb2⟩
    have Hr2 := Lib.hid (hr.below (w' := w2) (fun q hq => hb2.block q (by omega)))
    have hB2 : B ≤ w2.heap.size := by have := hb2.size; omega
    have Hb2 := Lib.hid hb2; clear hb2
    go_wp2_with fail
    refine (Hm.out _ Hr2.out hB2).mono ?_
    rintro e w3 ⟨rfl, hb3⟩
    have Hb3 := Lib.hid (Hb2.out.trans (hb3.mono Hb2.out.size)); clear hb3
    go_wp2
    go_ret
    exact ⟨ret_bool (by rw [Hf.out]; first | (rw [decide_eq_decide]; omega) | (rw [Bool.eq_iff_iff]; simp)), Hb3.out⟩
set_option maxHeartbeats 1000000 in
theorem specOnlyWorld (p : Int) (qs : List QC) (B : Nat) (v : Value) (w : World) (hr : RdStory w B v qs) (hB : B ≤ w.heap.size) :
    Calls Try.prog 21 #[.int .i64 p, v] w fun e w' => e = .returned (.tuple #[.int .i64 (onlyN p (qs.map (·.2))), .bool (onlyOk p (qs.map (·.2)))]) ∧ Below w.heap.size w w' := by
  have Ht := Lib.hid (fun w h hB => specStoryTable p qs B v w h hB)
  have Hw := Lib.hid (fun w => specWorldsIn p (storyV p (qs.map (·.2))) w)
  rw [show wlp p (storyV p (qs.map (·.2))) = swl p (qs.map (·.2)) by unfold swl; rfl] at Hw
  have hlen := swl_len p (qs.map (·.2))
  generalize hl : swl p (qs.map (·.2)) = l at *
  generalize storyV p (qs.map (·.2)) = T at *
  by_cases h1 : l.length = 1
  · obtain ⟨z, rfl⟩ : ∃ z, l = [z] := List.length_eq_one_iff.1 h1
    obtain ⟨e1, e2⟩ := onlyN_one hl
    have E1 := Lib.hid e1
    have E2 := Lib.hid e2
    clear e1 e2 hl h1 hlen
    go_enter Try.func21, Try.ntmps21
    go_wp2_with fail
    refine (Ht.out _ hr hB).mono ?_
    rintro e w2 ⟨rfl, hb2⟩
    have Hb2 := Lib.hid hb2; clear hb2
    go_wp2_with fail
    refine (Hw.out _).mono ?_
    rintro e w3 ⟨v3, rfl, hown, hb3⟩
    obtain ⟨g, cap, rfl⟩ := ownsRow_form hown (by simp)
    have Hb3 := Lib.hid (Hb2.out.trans (hb3.mono Hb2.out.size)); clear hb3
    have hc0 := hown.cellAt 0 (by simp)
    have hcap := (own_cap hown).1
    simp [vals] at hc0
    simp at hcap
    simp
    clear hown
    go_wp2
    go_ret2
    exact ⟨by rw [E1.out, E2.out]; rfl, Hb3.out⟩
  · obtain ⟨e1, e2⟩ := onlyN_not (p := p) (s := qs.map (·.2)) (by rw [hl]; exact h1)
    have E1 := Lib.hid e1
    have E2 := Lib.hid e2
    clear e1 e2 hl
    go_enter Try.func21, Try.ntmps21
    go_wp2_with fail
    refine (Ht.out _ hr hB).mono ?_
    rintro e w2 ⟨rfl, hb2⟩
    have Hb2 := Lib.hid hb2; clear hb2
    go_wp2_with fail
    refine (Hw.out _).mono ?_
    rintro e w3 ⟨v3, rfl, hown, hb3⟩
    obtain ⟨ao, cp, rfl⟩ := own_len hown
    have Hb3 := Lib.hid (Hb2.out.trans (hb3.mono Hb2.out.size)); clear hb3 hown
    go_wp2
    go_ret2
    exact ⟨by rw [E1.out, E2.out]; rfl, Hb3.out⟩
theorem below_grown_row {B : Nat} {w w1 w2 : World} {row : Option Nat} (h : Below B w w1) (hg : w1.grownBy w2 row) (hB : B ≤ w1.heap.size) (hr : ∀ k, row = some k → B ≤ k) : Below B w w2 :=
  h.trans ⟨hg.os, hg.tape, hg.output, hg.size, fun i hi => hg.block i (by omega) (fun e => by have := hr i e.symm; omega)⟩
theorem knownF_nil (p : Int) : knownF p [] = [] := by simp [knownF]
theorem knownF_cons {p : Int} {l : List Nat} (h : l ≠ []) : knownF p l = (List.range p.toNat).map (knownK l) := by simp [knownF, h]
theorem cntK_succ (l : List Nat) (k j : Nat) (hj : j < l.length) : cntK (l.take (j + 1)) k = cntK (l.take j) k + (if (l.getD j 0).testBit k then 1 else 0) := by
  have e : l.getD j 0 = l[j] := by simp [List.getD, hj]
  unfold cntK
  rw [List.take_succ_eq_append_getElem hj, List.countP_append, e]
  simp [List.countP_cons]
theorem vals_get (l : List Nat) (j : Nat) (hj : j < l.length) : (vals l)[j]? = some (.int .i64 (l.getD j 0)) := by
  simp [vals, List.getD, hj]
theorem story_people {p : Int} {s : List Cl} (h : swl p s ≠ []) : 1 ≤ p ∧ p ≤ 4 := by
  obtain ⟨x, hx⟩ := List.exists_mem_of_ne_nil _ h
  obtain ⟨hs, _, _⟩ := swl_lt hx
  obtain ⟨_, hp, _⟩ := storyOk_iff.1 hs
  simpa [pOk] using hp
theorem swl_small {p : Int} {s : List Cl} (j : Nat) : (swl p s).getD j 0 < 16 := by
  rw [List.getD_eq_getElem?_getD]
  cases hx : (swl p s)[j]? with
  | none => simp
  | some x =>
    obtain ⟨hs, h2, _⟩ := swl_lt (List.mem_of_getElem? hx)
    obtain ⟨_, hp, _⟩ := storyOk_iff.1 hs
    obtain ⟨h1, h4⟩ : 1 ≤ p ∧ p ≤ 4 := by simpa [pOk] using hp
    have h3 : 2 ^ p.toNat ≤ 16 := two16 (by omega)
    simp; omega
set_option maxRecDepth 100000 in
set_option maxHeartbeats 4000000 in
theorem specKnownPeople (p : Int) (qs : List QC) (B : Nat) (v : Value) (w : World) (hr : RdStory w B v qs) (hB : B ≤ w.heap.size) :
    Calls Try.prog 26 #[.int .i64 p, v] w fun e w' => ∃ u, e = .returned u ∧ w'.ownsRow w.heap.size 3 1 u (knownL p (qs.map (·.2))).length (ints (knownL p (qs.map (·.2)))) ∧ Below w.heap.size w w' := by
  obtain ⟨i0, hi, hz0, hz1, hz2⟩ := info_parts Try.info3
  have Hi := Lib.hid hi; clear hi
  have Hz0 := Lib.hid hz0; clear hz0
  have Hz1 := Lib.hid hz1; clear hz1
  have Hz2 := Lib.hid hz2; clear hz2
  have Ht := Lib.hid (fun w h hB => specStoryTable p qs B v w h hB)
  have Hw := Lib.hid (fun w => specWorldsIn p (storyV p (qs.map (·.2))) w)
  rw [show wlp p (storyV p (qs.map (·.2))) = swl p (qs.map (·.2)) by unfold swl; rfl] at Hw
  rw [show knownL p (qs.map (·.2)) = knownF p (swl p (qs.map (·.2))) by unfold knownL; rfl]
  have hlen := swl_len p (qs.map (·.2))
  have Hsm : Hid (∀ j, (swl p (qs.map (·.2))).getD j 0 < 16) := fun j => swl_small j
  have Hpp : Hid (swl p (qs.map (·.2)) ≠ [] → 1 ≤ p ∧ p ≤ 4) := fun h => story_people h
  generalize swl p (qs.map (·.2)) = l at *
  generalize storyV p (qs.map (·.2)) = T at *
  obtain ⟨wo, rfl⟩ : ∃ wo : World, wo = w := ⟨_, rfl⟩
  by_cases hl : l = []
  · subst hl
    rw [knownF_nil]
    by_cases hp0 : 0 < p
    all_goals
      go_enter Try.func26, Try.ntmps26
      go_upto_region 2 with fail
      obtain ⟨w1, hw1⟩ : ∃ w1 : World, w1 = wo.alloc (.cells #[] 3) := ⟨_, rfl⟩
      have hown1 : w1.ownsRow wo.heap.size 3 1 (.slice (some ⟨wo.heap.size, 0, none⟩) 0 0) 0 (ints []) := by rw [hw1]; exact World.ownsRow_made _ _ 0 (Nat.le_refl _) (by unfold maxLen; omega) rfl
      have hb1 : Below wo.heap.size wo w1 := by rw [hw1]; exact (Below.refl _ _).alloc (Nat.le_refl _) _
      have hs1 : wo.heap.size < w1.heap.size := by rw [hw1]; simp
      rw [← hw1]
      clear hw1
      have Hr1 := Lib.hid (hr.below (w' := w1) (fun q hq => hb1.block q (by omega)))
      have Hown1 := Lib.hid hown1
      have Hb1 := Lib.hid hb1
      clear hr hown1 hb1
      go_wp2_with fail
      refine (Ht.out _ Hr1.out (by omega)).mono ?_
      rintro e w2 ⟨rfl, hb2⟩
      have Hb2 := Lib.hid hb2; clear hb2
      go_wp2_with fail
      refine (Hw.out _).mono ?_
      rintro e w3 ⟨v3, rfl, hown, hb3⟩
      have hs2 := Hb2.out.size
      have hs3 := hb3.size
      have hown3 := own_below (own_below Hown1.out Hb2.out) hb3
      have hB3 := Hb1.out.trans ((Hb2.out.trans (hb3.mono Hb2.out.size)).mono (by omega))
      have Hown3 := Lib.hid hown3
      have HB3 := Lib.hid hB3
      rcases ownsRow_forms hown with ⟨rfl, _⟩ | ⟨g, cap, rfl⟩
      all_goals
        clear hown hown3 hB3 hb3
        go_wp2
        go_loop [5, 7, 8, 9, 45, 50] (fun u i _ _ _ _ => u = .slice (some ⟨wo.heap.size, 0, none⟩) 0 0 ∧ i = .int .i64 (0 : Nat)) (fun _ _ _ _ _ _ => 0)
        case atStart => exact ⟨rfl, rfl⟩
        case round =>
          obtain ⟨rfl, rfl⟩ := hrel
          rw [show ((0 : Nat) : Int) = 0 from rfl]
          go_wp2
          go_ret
          exact ⟨_, rfl, Hown3.out, HB3.out⟩
  · obtain ⟨h1, h4⟩ := Hpp.out hl
    have Hkc := Lib.hid (knownF_cons (p := p) hl)
    obtain ⟨P, rfl⟩ := Int.eq_ofNat_of_zero_le (show 0 ≤ p by omega)
    obtain ⟨n, hn⟩ : ∃ n, n = l.length := ⟨_, rfl⟩
    have hn0 : 0 < n := by rw [hn]; exact List.length_pos_iff.2 hl
    have hP4 : P ≤ 4 := by omega
    have Hn := Lib.hid hn
    rw [← hn] at hlen Hw
    clear hn hl Hpp h1 h4
    go_enter Try.func26, Try.ntmps26
    go_upto_region 2 with fail
    obtain ⟨w1, hw1⟩ : ∃ w1 : World, w1 = wo.alloc (.cells #[] 3) := ⟨_, rfl⟩
    have hown1 : w1.ownsRow wo.heap.size 3 1 (.slice (some ⟨wo.heap.size, 0, none⟩) 0 0) 0 (ints []) := by rw [hw1]; exact World.ownsRow_made _ _ 0 (Nat.le_refl _) (by unfold maxLen; omega) rfl
    have hb1 : Below wo.heap.size wo w1 := by rw [hw1]; exact (Below.refl _ _).alloc (Nat.le_refl _) _
    have hs1 : wo.heap.size < w1.heap.size := by rw [hw1]; simp
    rw [← hw1]
    clear hw1
    have Hr1 := Lib.hid (hr.below (w' := w1) (fun q hq => hb1.block q (by omega)))
    have Hown1 := Lib.hid hown1
    have Hb1 := Lib.hid hb1
    clear hr hown1 hb1
    go_wp2_with fail
    refine (Ht.out _ Hr1.out (by omega)).mono ?_
    rintro e w2 ⟨rfl, hb2⟩
    have Hb2 := Lib.hid hb2; clear hb2
    go_wp2_with fail
    refine (Hw.out _).mono ?_
    rintro e w3 ⟨v3, rfl, hown, hb3⟩
    have hs2 := Hb2.out.size
    have hs3 := hb3.size
    have hown3 := own_below (own_below Hown1.out Hb2.out) hb3
    have hB3 := Hb1.out.trans ((Hb2.out.trans (hb3.mono Hb2.out.size)).mono (by omega))
    have Hown3 := Lib.hid hown3
    have HB3 := Lib.hid hB3
    obtain ⟨g, cap, rfl⟩ := ownsRow_form hown hn0
    have Hl3 := Lib.hid hown
    have hcap := own_cap hown
    have hgs := (hown.lt g rfl).1
    unfold maxLen at hcap
    clear hown hown3 hB3 hb3
    go_wp2
    go_loopw [5, 7, 8, 9, 45, 50] (fun u i _ _ _ _ wr => ∃ k : Nat, k ≤ P ∧ i = .int .i64 k ∧ wr.ownsRow wo.heap.size 3 1 u k (ints ((List.range k).map (knownK l))) ∧ u.ownBlock ≠ some g ∧ wr.ownsRow w2.heap.size 3 1 (.slice (some ⟨g, 0, none⟩) n cap) n (vals l) ∧ Below wo.heap.size wo wr) (fun _ i _ _ _ _ _ => P - (intOf i).toNat)
    case atStart => exact ⟨0, Nat.zero_le _, rfl, Hown3.out, by simp [Value.ownBlock]; omega, Hl3.out, HB3.out⟩
    case round =>
      obtain ⟨k, hk, rfl, hown, hne, hlr, hbr⟩ := hrel
      have Hown := Lib.hid hown
      have Hne := Lib.hid hne
      have Hlr := Lib.hid hlr
      have Hbr := Lib.hid hbr
      have hsr := hbr.size
      have hgr := (hlr.lt g rfl).2
      by_cases hlt : k < P
      · have hcells : ∀ j, j < n → wr.cell? ⟨g, j, none⟩ = some (.int .i64 (l.getD j 0)) := fun j hj => by
          have h1 := hlr.cellAt j (by omega)
          rw [h1, vals_get l j (by have := Hn.out; omega)]
        have Hcells := Lib.hid hcells
        clear hown hne hlr hbr hcells
        go_wp2
        go_loop [8, 9] (fun c i => ∃ j : Nat, j ≤ n ∧ i = .int .i64 j ∧ c = .int .i64 (cntK (l.take j) k)) (fun _ i => n - (intOf i).toNat)
        case atStart => exact ⟨0, Nat.zero_le _, rfl, by simp [cntK]⟩
        case round =>
          obtain ⟨j, hj, rfl, rfl⟩ := hrel
          by_cases hjl : j < n
          · have hc := Hcells.out j hjl
            have hx := Hsm.out j
            have hs := cntK_succ l k j (by have := Hn.out; omega)
            have hle : cntK (l.take j) k ≤ 16 := by
              have := cntK_le (l.take j) k
              rw [List.length_take] at this
              have := Hn.out; omega
            generalize l.getD j 0 = x at *
            have hmk : min k 64 = k := by omega
            have hb := tmod_two_val (T := x) (k := k)
            have Hs := Lib.hid hs
            clear hs
            cases hbit : x.testBit k with
            | true =>
              rw [hbit, if_pos rfl] at hb
              have Hs' : Hid (cntK (l.take (j + 1)) k = cntK (l.take j) k + 1) := by unfold Hid; rw [Hs.out, hbit]; rfl
              clear Hs hbit
              generalize cntK (l.take j) k = c at *
              go_wp2
              go_round
              case rel => exact ⟨j + 1, by omega, by go_num, by rw [Hs'.out]; go_num⟩
              case measure => simp [intOf]; omega
            | false =>
              rw [hbit, if_neg (by simp)] at hb
              have Hs' : Hid (cntK (l.take (j + 1)) k = cntK (l.take j) k + 0) := by unfold Hid; rw [Hs.out, hbit]; rfl
              clear Hs hbit
              generalize cntK (l.take j) k = c at *
              go_wp2
              go_round
              case rel => exact ⟨j + 1, by omega, by go_num, by rw [Hs'.out]; go_num⟩
              case measure => simp [intOf]; omega
          · obtain rfl : j = n := by omega
            have et : l.take j = l := List.take_of_length_le (by rw [Hn.out]; exact Nat.le_refl _)
            rw [et]
            have hkk : Hid (knownK l k = if cntK l k = 0 then 0 else if cntK l k = l.length then 1 else -1) := by unfold Hid; unfold knownK; rfl
            rw [← Hn.out] at hkk
            have hrs : Hid (ints ((List.range (k + 1)).map (knownK l)) = ints ((List.range k).map (knownK l)) ++ [.int .i64 (knownK l k)]) := by
              unfold Hid; rw [List.range_succ, List.map_append]; simp [ints]
            have hle : cntK l k ≤ 16 := by have := cntK_le l k; have := Hn.out; omega
            generalize knownK l k = K at *
            generalize cntK l k = c at *
            by_cases h0 : c = 0
            · subst h0
              rw [if_pos rfl] at hkk
              go_wp2_with (at_builtin; refine wpList_append_own_at _ rfl _ _ 36 rfl wo.heap.size 3 i0 (.int .i64 0) 1 8 Try.underlying36 Hi.out Hz0.out Hz1.out Hz2.out rfl (by decide) _ _ _ rfl (Hown.out.alloc _) ⟨wr.heap.size, 0, none⟩ 1 1 [.int .i64 (0)] rfl rfl (news1 _ _ rfl _ _) (by simp [Value.oneCell']) (by unfold maxLen; omega) (by omega) (by simp; omega) ?_)
              intro v' w5 hown' hgrow _ hat
              have hne' : v'.ownBlock ≠ some g := by
                rcases hat with h | h
                · rw [h]; exact Hne.out
                · rw [h]; simp; omega
              have hl5 := (Hlr.out.alloc (.cells #[.int .i64 (0)] 3)).kept hgrow (.inr (by simp [Value.ownBlock]; exact fun e => Hne.out e.symm))
              have hb5 : Below wo.heap.size wo w5 := below_grown_row (Hbr.out.alloc hsr _) hgrow (by simp; omega) (fun q hq => (Hown.out.lt q hq).1)
              have Hown5 : Hid (w5.ownsRow wo.heap.size 3 1 v' (k + 1) (ints ((List.range (k + 1)).map (knownK l)))) := by
                unfold Hid; rw [hrs.out, hkk.out]; exact hown'
              have Hl5 := Lib.hid hl5
              have Hb5 := Lib.hid hb5
              clear hown' hgrow hat hl5 hb5
              go_wp2
              go_roundw
              case rel => exact ⟨k + 1, by omega, by go_num, Hown5.out, hne', Hl5.out, Hb5.out⟩
              case measure => simp [intOf]; omega
            · rw [if_neg h0] at hkk
              by_cases h1 : c = j
              · rw [if_pos h1] at hkk
                go_wp2_with (at_builtin; refine wpList_append_own_at _ rfl _ _ 36 rfl wo.heap.size 3 i0 (.int .i64 0) 1 8 Try.underlying36 Hi.out Hz0.out Hz1.out Hz2.out rfl (by decide) _ _ _ rfl (Hown.out.alloc _) ⟨wr.heap.size, 0, none⟩ 1 1 [.int .i64 (1)] rfl rfl (news1 _ _ rfl _ _) (by simp [Value.oneCell']) (by unfold maxLen; omega) (by omega) (by simp; omega) ?_)
                intro v' w5 hown' hgrow _ hat
                have hne' : v'.ownBlock ≠ some g := by
                  rcases hat with h | h
                  · rw [h]; exact Hne.out
                  · rw [h]; simp; omega
                have hl5 := (Hlr.out.alloc (.cells #[.int .i64 (1)] 3)).kept hgrow (.inr (by simp [Value.ownBlock]; exact fun e => Hne.out e.symm))
                have hb5 : Below wo.heap.size wo w5 := below_grown_row (Hbr.out.alloc hsr _) hgrow (by simp; omega) (fun q hq => (Hown.out.lt q hq).1)
                have Hown5 : Hid (w5.ownsRow wo.heap.size 3 1 v' (k + 1) (ints ((List.range (k + 1)).map (knownK l)))) := by
                  unfold Hid; rw [hrs.out, hkk.out]; exact hown'
                have Hl5 := Lib.hid hl5
                have Hb5 := Lib.hid hb5
                clear hown' hgrow hat hl5 hb5
                go_wp2
                go_roundw
                case rel => exact ⟨k + 1, by omega, by go_num, Hown5.out, hne', Hl5.out, Hb5.out⟩
                case measure => simp [intOf]; omega
              · rw [if_neg h1] at hkk
                go_wp2_with (at_builtin; refine wpList_append_own_at _ rfl _ _ 36 rfl wo.heap.size 3 i0 (.int .i64 0) 1 8 Try.underlying36 Hi.out Hz0.out Hz1.out Hz2.out rfl (by decide) _ _ _ rfl (Hown.out.alloc _) ⟨wr.heap.size, 0, none⟩ 1 1 [.int .i64 (-1)] rfl rfl (news1 _ _ rfl _ _) (by simp [Value.oneCell']) (by unfold maxLen; omega) (by omega) (by simp; omega) ?_)
                intro v' w5 hown' hgrow _ hat
                have hne' : v'.ownBlock ≠ some g := by
                  rcases hat with h | h
                  · rw [h]; exact Hne.out
                  · rw [h]; simp; omega
                have hl5 := (Hlr.out.alloc (.cells #[.int .i64 (-1)] 3)).kept hgrow (.inr (by simp [Value.ownBlock]; exact fun e => Hne.out e.symm))
                have hb5 : Below wo.heap.size wo w5 := below_grown_row (Hbr.out.alloc hsr _) hgrow (by simp; omega) (fun q hq => (Hown.out.lt q hq).1)
                have Hown5 : Hid (w5.ownsRow wo.heap.size 3 1 v' (k + 1) (ints ((List.range (k + 1)).map (knownK l)))) := by
                  unfold Hid; rw [hrs.out, hkk.out]; exact hown'
                have Hl5 := Lib.hid hl5
                have Hb5 := Lib.hid hb5
                clear hown' hgrow hat hl5 hb5
                go_wp2
                go_roundw
                case rel => exact ⟨k + 1, by omega, by go_num, Hown5.out, hne', Hl5.out, Hb5.out⟩
                case measure => simp [intOf]; omega
      · obtain rfl : k = P := by omega
        clear hown hne hlr hbr
        go_wp2
        go_ret
        refine ⟨_, rfl, ?_, Hbr.out⟩
        rw [Hkc.out, List.length_map, List.length_range]
        exact Hown.out
end Go.Proofs.Ytncihjelpaiocaa

/- A law of stage 5: what is known has been told. It answers true, whatever the code. No condition. -/
import Derived.Test.YtncihjelpaiocaaDrawV
import Derived.Test.YtncihjelpaiocaaOneI
import Derived.Test.YtncihjelpaiocaaClaimI
import Derived.Test.YtncihjelpaiocaaOneU
import Derived.Test.YtncihjelpaiocaaClaimF
import Derived.Test.YtncihjelpaiocaaLawsA
import Derived.Deep.RegionHeld3
import Derived.Deep.Cut
import Derived.Test.YtncihjelpaiocaaOneA
namespace Go.Proofs.Ytncihjelpaiocaa
open Go.RowKit Go.Joins
theorem row_at {w : World} {base n c : Nat} {a : Option Addr} {zs : List Int} (h : w.ownsRow base 3 1 (.slice a n c) n (ints zs)) : ∀ k, k < n → ∃ g, a = some ⟨g, 0, none⟩ ∧ n ≤ c ∧ w.cell? ⟨g, k, none⟩ = some (.int .i64 (zs.getD k 0)) := by
  intro k hk
  obtain ⟨g, c', he⟩ := ownsRow_form h (by omega)
  injection he with h1 h2 h3
  subst h1
  have hl : zs.length = n := by have := h.1; simpa [ints] using this
  refine ⟨g, rfl, (own_cap h).1, ?_⟩
  have h1 := h.cellAt k (by omega)
  rw [h1]
  simp [ints, List.getD, hl, hk]
theorem knownF_get {p : Int} {l : List Nat} {k : Nat} (hk : k < (knownF p l).length) : (knownF p l).getD k 0 = knownK l k := by
  have h := knownL_len (p := p) (l := l)
  by_cases hl : l = []
  · rw [if_pos hl] at h; omega
  · rw [if_neg hl] at h
    exact knownL_get hl (by omega)
theorem KnownMore (p : Int) (qs : List QC) (u0 : Value) (B : Nat) (v : Value) (w : World) (hr : RdStory w B v (qs ++ [(u0, (0, [(1, 0)]))])) (hB : B ≤ w.heap.size) :
    Calls Try.prog 22 #[.int .i64 p, v] w fun e w' => ∃ u, e = .returned u ∧ w'.ownsRow w.heap.size 3 1 u (knownF p (swl p (qs.map (·.2) ++ [(0, [(1, 0)])]))).length (ints (knownF p (swl p (qs.map (·.2) ++ [(0, [(1, 0)])])))) ∧ Below w.heap.size w w' := by
  have h := implKnownPeople p _ B v w hr hB
  rw [map_more] at h
  exact h
theorem follows_len {p : Int} {s : List Cl} (h : storyOk p s = true) {c : Cl} : (knownF p (swl p s)).length ≤ 4 ∧ ((knownF p (swl p (s ++ [c]))).length = 0 ∨ ((knownF p (swl p (s ++ [c]))).length = (knownF p (swl p s)).length ∧ ((knownF p (swl p s)).length : Int) = p ∧ swl p (s ++ [c]) ≠ [])) := by
  obtain ⟨_, hp, _⟩ := storyOk_iff.1 h
  obtain ⟨h1, h4⟩ : 1 ≤ p ∧ p ≤ 4 := by simpa [pOk] using hp
  have e1 := knownL_len (p := p) (l := swl p s)
  have e2 := knownL_len (p := p) (l := swl p (s ++ [c]))
  refine ⟨by rw [e1]; split <;> omega, ?_⟩
  by_cases hl : swl p (s ++ [c]) = []
  · rw [if_pos hl] at e2; exact .inl e2
  · rw [if_neg hl] at e2
    have hl1 : swl p s ≠ [] := by
      intro e
      obtain ⟨x, hx⟩ := List.exists_mem_of_ne_nil _ hl
      have := swl_snoc h x hx
      rw [e] at this; cases this
    rw [if_neg hl1] at e1
    exact .inr ⟨by omega, by omega, hl⟩
theorem follows_more {p : Int} {s : List Cl} {k : Nat} (h : storyOk p s = true) {c : Cl} (hn : (knownF p (swl p (s ++ [c]))).length ≠ 0) (hk : knownK (swl p s) k ≠ -1) : knownK (swl p (s ++ [c])) k = knownK (swl p s) k := by
  refine known_more (swl_snoc h) ?_ hk
  intro e
  have := knownL_len (p := p) (l := swl p (s ++ [c]))
  rw [if_pos e] at this
  exact hn this
/-- a claim behind a story: two blocks laid behind the copied row -/
theorem more_added {w4 w5 w6 : World} {v v5 v6 : Value} {qs : List QC} (Hb5 : Below w4.heap.size w4 w5) (Hown5 : w5.ownsRow w4.heap.size TC 2 v5 qs.length (ccells qs)) (hr : RdStory w4 w4.heap.size v qs)
    (hown6 : w6.ownsRow w4.heap.size TC 2 v6 (qs.length + 1) (ccells qs ++ ccells [(.slice (some ⟨w5.heap.size, 0, none⟩) 1 1, (0, [(1, 0)]))]))
    (hgr6 : ((w5.alloc (.cells #[.int .i64 1, .int .i64 0] TM)).alloc (.cells #[.int .i64 0, .slice (some ⟨w5.heap.size, 0, none⟩) 1 1] TC)).grownBy w6 v5.ownBlock) :
    RdStory w6 w6.heap.size v6 (qs ++ [(.slice (some ⟨w5.heap.size, 0, none⟩) 1 1, (0, [(1, 0)]))]) ∧ Below w4.heap.size w4 w6 := by
  have hs5 := Hb5.size
  have hba : Below w4.heap.size w4 ((w5.alloc (.cells #[.int .i64 1, .int .i64 0] TM)).alloc (.cells #[.int .i64 0, .slice (some ⟨w5.heap.size, 0, none⟩) 1 1] TC)) := (Hb5.alloc hs5 _).alloc (by simp; omega) _
  have hb6 := below_grown_row hba hgr6 (by simp; omega) (fun q hq => (Hown5.lt q hq).1)
  have hm1 : (w5.alloc (.cells #[.int .i64 1, .int .i64 0] TM)).ownsRow w5.heap.size TM 2 (.slice (some ⟨w5.heap.size, 0, none⟩) 1 1) 1 (mcells [(1, 0)]) := own_new w5 w5.heap.size 1 0 (Nat.le_refl _)
  have hm2 := (hm1.alloc (.cells #[.int .i64 0, .slice (some ⟨w5.heap.size, 0, none⟩) 1 1] TC)).kept hgr6 (own_apart' (s := w5.heap.size) (fun k hk => (hm1.lt k hk).1) (fun k hk => (Hown5.lt k hk).2))
  exact ⟨rdStory_more (q := (.slice (some ⟨w5.heap.size, 0, none⟩) 1 1, (0, [(1, 0)]))) hr hb6 ⟨RdMarks.of_own hm2 (I64s_one (I64_small (by omega) (by omega)) (I64_small (by omega) (by omega))), show I64 (0 : Int) from I64_small (by omega) (by omega)⟩ hown6, hb6⟩
end Go.Proofs.Ytncihjelpaiocaa
namespace Go.Proofs.Ytncihjelpaiocaa.fnKnownFollows
open Go.ChangeShapes Go.WideShapes Go.ChangeAt Go.RowKit Go.Joins
attribute [local irreducible] holds tabN tabV holdsV sameV followsV alwaysV matterV mirV mirOk mcells tmOf claimOk mayT mayV ctabV ctabN storyV storyOk storyN storyT ctermV ctermL denyV denyOk ccells clashV onlyOk onlyN knownF knownL knownK cntK swl needB needF needL leastR leastV woL
open Go.ChangeMaps (open_string shut_string)
set_option linter.unusedVariables false
set_option maxRecDepth 100000 in
set_option maxHeartbeats 4000000 in
theorem walk (a0 : Value) (n0 : Nat) (w : World) (w0 : RdBytes w w.heap.size a0 n0) :
    Calls Try.prog 8 #[a0] w fun e w' => e = .returned (.bool true) ∧ Below w.heap.size w w' := by
  have hr := w0
  by_cases hbig : n0 ≤ 1048576
  case neg =>
    obtain ⟨ao, cap, rfl, hl, hm, hc⟩ := w0
    have hbig' := code_big hbig
    unfold maxLen at hm
    clear hc hr hbig
    go_enter Try.func8, Try.ntmps8
    go_wp2
    go_ret
    exact ⟨rfl, Below.refl _ _⟩
  have hbig' : (n0 : Int) ≤ 1048576 := by omega
  clear hbig
  obtain ⟨ao, cap, rfl, hl, hm, hc⟩ := w0
  have Hr := Lib.hid hr
  clear hc hr hl hm
  go_enter Try.func8, Try.ntmps8
  go_wp2_with fail
  refine (drawKnownPeople _ _ _ Hr.out).mono ?_
  rintro e w1 ⟨p, v, qs, hp4', hp8, rfl, hst, hqs, hq7, hB1⟩
  have HS1 := Lib.hid hst
  obtain ⟨vo, vc, hvf⟩ := own_len hst.1
  subst hvf
  have hvc : qs.length ≤ vc := by
    rcases hst.1.2 with ⟨h0, hz⟩ | ⟨g', cap', cur, h0, _, _, h1, _⟩
    · injection h0 with _ h2 h3; omega
    · injection h0 with _ h2 h3; omega
  clear hst
  have HQ_1 := HS1
  obtain ⟨ic, hci, hcz0, hcz1, hcz2⟩ := info_parts Try.infoC
  have Ci := Lib.hid hci; clear hci
  have Cz0 := Lib.hid hcz0; clear hcz0
  have Cz1 := Lib.hid hcz1; clear hcz1
  have Cz2 := Lib.hid hcz2; clear hcz2
  have Hik := Lib.hid (fun B u W h h2 => implKnownPeople p qs B u W h h2)
  rw [show knownL p (qs.map (·.2)) = knownF p (swl p (qs.map (·.2))) by unfold knownL; rfl] at Hik
  have Hio := Lib.hid (fun B u W h h2 => implOnlyWorld p qs B u W h h2)
  have Hso := Lib.hid (fun B u W h h2 => specStoryOk p qs B u W h h2)
  cases hok : storyOk p (qs.map (·.2)) with
  | false =>
    have hl := swl_no hok
    obtain ⟨e1, e2⟩ := onlyN_not (p := p) (s := qs.map (·.2)) (by rw [hl]; simp)
    rw [hl, show knownF p [] = [] by simp [knownF]] at Hik
    rw [e1, e2] at Hio
    rw [hok] at Hso
    clear hok hl e1 e2 hvc
    go_wp2_with fail
    refine (Hik.out _ _ _ HQ_1.out.rd (Nat.le_refl _)).mono ?_
    rintro e w2 ⟨u2, rfl, hown2, hb2⟩
    obtain ⟨a2, c2, hv2⟩ := own_len hown2
    subst hv2
    have HU_2 := Lib.hid hown2
    clear hown2
    have HQ_2 := Lib.hid (HQ_1.out.below hb2)
    have hs2 := hb2.size
    have hB2 : Below w.heap.size w w2 := hB1.trans (hb2.mono hB1.size)
    clear hb2
    go_wp2_with fail
    refine (Hio.out _ _ _ HQ_2.out.rd (Nat.le_refl _)).mono ?_
    rintro e w3 ⟨rfl, hb3⟩
    have HU_3 := Lib.hid (own_below HU_2.out hb3)
    have HQ_3 := Lib.hid (HQ_2.out.below hb3)
    have hs3 := hb3.size
    have hB3 : Below w.heap.size w w3 := hB2.trans (hb3.mono hB2.size)
    clear hb3
    go_wp2
    go_loop [8] (fun i => i = .int .i64 (0 : Nat)) (fun _ => 0)
    case atStart => rfl
    case round =>
      subst hrel
      rw [show ((0 : Nat) : Int) = 0 from rfl]
      go_wp2_with fail
      refine (Hso.out _ _ _ HQ_3.out.rd (Nat.le_refl _)).mono ?_
      rintro e w4 ⟨rfl, hb4⟩
      have hs4 := hb4.size
      have hB4 : Below w.heap.size w w4 := hB3.trans (hb4.mono hB3.size)
      clear hb4
      go_wp2_with fail
      refine (alive _).mono ?_
      rintro e w' ⟨rfl, rfl⟩
      go_wp2
      go_ret
      exact ⟨rfl, hB4⟩
  | true =>
  have Hik2 := Lib.hid (fun u0 B u W h h2 => KnownMore p qs u0 B u W h h2)
  have HR := Lib.hid (follows_len (c := (0, [(1, 0)])) hok)
  have Hmore := Lib.hid (fun k => follows_more (p := p) (s := qs.map (·.2)) (k := k) (c := (0, [(1, 0)])) hok)
  have Hg1 := Lib.hid (fun k hk => knownF_get (p := p) (l := swl p (qs.map (·.2))) (k := k) hk)
  have Hg2 := Lib.hid (fun k hk => knownF_get (p := p) (l := swl p (qs.map (·.2) ++ [(0, [(1, 0)])])) (k := k) hk)
  have Hon1 := Lib.hid (fun z (h : swl p (qs.map (·.2)) = [z]) => onlyN_one h)
  have Hon0 := Lib.hid (fun (h : (swl p (qs.map (·.2))).length ≠ 1) => onlyN_not h)
  have Hok1 := Lib.hid (fun z (h : swl p (qs.map (·.2)) = [z]) k => only_known h k)
  have hsm := swl_small (p := p) (s := qs.map (·.2)) 0
  rw [hok] at Hso
  clear hok hvc
  generalize onlyN p (qs.map (·.2)) = ON at *
  generalize onlyOk p (qs.map (·.2)) = OK at *
  generalize swl p (qs.map (·.2) ++ [(0, [(1, 0)])]) = l2 at *
  generalize swl p (qs.map (·.2)) = l at *
  generalize knownF p l = k1 at *
  generalize knownF p l2 = k2 at *
  generalize k1.length = R1 at *
  generalize k2.length = R2 at *
  have hR14 : R1 ≤ 4 := HR.out.1
  by_cases h1 : l.length = 1
  · obtain ⟨z, rfl⟩ : ∃ z, l = [z] := List.length_eq_one_iff.1 h1
    obtain ⟨e1, e2⟩ := Hon1.out z rfl
    subst e1
    subst e2
    have Hbit := Lib.hid (fun k => Hok1.out z rfl k)
    simp at hsm
    obtain ⟨l, hlz⟩ : ∃ l, l = [z] := ⟨_, rfl⟩
    rw [← hlz] at Hg1 Hmore Hbit
    clear h1 Hon1 Hon0 Hok1 hlz
    go_wp2_with fail
    refine (Hik.out _ _ _ HQ_1.out.rd (Nat.le_refl _)).mono ?_
    rintro e w2 ⟨u2, rfl, hown2, hb2⟩
    obtain ⟨a2, c2, hv2⟩ := own_len hown2
    subst hv2
    have HU_2 := Lib.hid hown2
    clear hown2
    have HQ_2 := Lib.hid (HQ_1.out.below hb2)
    have hs2 := hb2.size
    have hB2 : Below w.heap.size w w2 := hB1.trans (hb2.mono hB1.size)
    clear hb2
    go_wp2_with fail
    refine (Hio.out _ _ _ HQ_2.out.rd (Nat.le_refl _)).mono ?_
    rintro e w3 ⟨rfl, hb3⟩
    have HU_3 := Lib.hid (own_below HU_2.out hb3)
    have HQ_3 := Lib.hid (HQ_2.out.below hb3)
    have hs3 := hb3.size
    have hB3 : Below w.heap.size w w3 := hB2.trans (hb3.mono hB2.size)
    clear hb3
    have Hr3 := Lib.hid (row_at HU_3.out)
    go_wp2
    go_loopw [8] (fun i wr => ∃ k : Nat, k ≤ R1 ∧ i = .int .i64 k ∧ ∃ n, w3.drewN n = wr) (fun i _ => R1 - (intOf i).toNat)
    case atStart => exact ⟨0, Nat.zero_le _, rfl, 0, rfl⟩
    case round =>
      obtain ⟨k, hk, rfl, nd3, rfl⟩ := hrel
      by_cases hlt : k < R1
      · obtain ⟨ga, ha, hca, hxa⟩ := Hr3.out k hlt
        subst ha
        rw [Hg1.out k hlt, Hbit.out k] at hxa
        have hb := tmod_two_val (T := z) (k := k)
        have hmk : min k 64 = k := by omega
        cases hbit : z.testBit k with
        | true =>
          rw [hbit, if_pos rfl] at hb hxa
          go_wp2_with fail
          go_quiet (fail)
          go_wp2
          go_roundw
          case rel => exact ⟨k + 1, by omega, by go_num, _, rfl⟩
          case measure => simp [intOf]; omega
        | false =>
          rw [hbit, if_neg (by simp)] at hb hxa
          go_wp2_with fail
          go_quiet (fail)
          go_wp2
          go_roundw
          case rel => exact ⟨k + 1, by omega, by go_num, _, rfl⟩
          case measure => simp [intOf]; omega
      · have hkR : (k : Int) = R1 := by omega
        have hkR2 : ¬ (k : Int) < (R1 : Int) := by omega
        have hbd : Below w3.heap.size w3 (w3.drewN nd3) := below_drewN (Below.refl _ _) nd3
        have HQ_3 := Lib.hid (HQ_3.out.below hbd)
        have HU_3 := Lib.hid (own_below HU_3.out hbd)
        have hB3 := hB3.trans (hbd.mono hB3.size)
        clear Hr3 Hbit hbd
        go_wp2_with fail
        refine (Hso.out _ _ _ HQ_3.out.rd (Nat.le_refl _)).mono ?_
        rintro e w4 ⟨rfl, hb4⟩
        have HU_4 := Lib.hid (own_below HU_3.out hb4)
        have HQ_4 := Lib.hid (HQ_3.out.below hb4)
        have hs4 := hb4.size
        have hB4 : Below w.heap.size w w4 := hB3.trans (hb4.mono hB3.size)
        clear hb4
        by_cases h6 : 6 ≤ qs.length
        case pos =>
          have h6' : (6 : Int) ≤ (qs.length : Int) := by omega
          go_wp2_with fail
          refine (alive _).mono ?_
          rintro e w' ⟨rfl, rfl⟩
          go_wp2
          go_ret
          exact ⟨rfl, hB4⟩
        have h6' : ¬ (6 : Int) ≤ (qs.length : Int) := by omega
        have hown40 : (w4.alloc (.cells #[] TC)).ownsRow w4.heap.size TC 2 (.slice (some ⟨w4.heap.size, 0, none⟩) 0 0) 0 [] := World.ownsRow_made _ _ 0 (Nat.le_refl _) (by unfold maxLen; omega) rfl
        have hb40 : Below w4.heap.size w4 (w4.alloc (.cells #[] TC)) := (Below.refl _ _).alloc (Nat.le_refl _) _
        have Hq40 := Lib.hid (HQ_4.out.rd.below (w' := w4.alloc (.cells #[] TC)) hb40.block)
        have Hown40 := Lib.hid hown40
        have Hb40 := Lib.hid hb40
        clear hown40 hb40
        go_wp2_with (first
          | (at_builtin; refine wpList_append_story rfl (.tmp 57) (.tmp 58) rfl Ci.out Cz0.out Cz1.out Cz2.out rfl rfl Hown40.out Hq40.out (by omega) (by simp) ?_; intro v5 w5 hown5 hgr5 _
             have Hb5 := Lib.hid (below_grown_row Hb40.out hgr5 (by simp) (fun q hq => (Hown40.out.lt q hq).1))
             have hs5 := Hb5.out.size
             rw [Nat.zero_add, List.nil_append] at hown5
             have Hown5 := Lib.hid hown5
             clear hown5 hgr5)
          | (at_builtin; refine wpList_append_own _ rfl (.tmp 59) (.tmp 63) 23 rfl w4.heap.size TC ic (.agg #[.int .i64 0, .slice none 0 0]) 2 32 Try.underlying23 Ci.out Cz0.out Cz1.out Cz2.out rfl (by decide) _ _ _ rfl ((Hown5.out.alloc _).alloc _) ⟨w5.heap.size + 1, 0, none⟩ 1 1 (ccells [(.slice (some ⟨w5.heap.size, 0, none⟩) 1 1, (0, [(1, 0)]))]) rfl (by rw [ccells_length]; rfl) (newsC _ _ (by simp) _ _ _ _) (ccells_one (by simp [Value.oneCell'])) (by unfold maxLen; omega) (by omega) (by simp; omega) ?_; intro v6 w6 hown6 hgr6 _
             have Hadd := Lib.hid (more_added Hb5.out Hown5.out HQ_4.out.rd hown6 hgr6)
             have HU_6 := Lib.hid (own_below HU_4.out Hadd.out.2)
             have hB6 : Below w.heap.size w w6 := hB4.trans (Hadd.out.2.mono hB4.size)
             clear hown6 hgr6)
          | fail)
        refine (Hik2.out _ _ _ _ Hadd.out.1 (Nat.le_refl _)).mono ?_
        rintro e w7 ⟨u7, rfl, hown7, hb7⟩
        obtain ⟨a7, c7, hv7⟩ := own_len hown7
        subst hv7
        have Hr7 := Lib.hid (row_at hown7)
        have Hr5 := Lib.hid (row_at (own_below HU_6.out hb7))
        have hB7 : Below w.heap.size w w7 := hB6.trans (hb7.mono hB6.size)
        clear hown7 hb7
        go_wp2
        go_loopw [10] (fun i wr => ∃ k : Nat, k ≤ R2 ∧ i = .int .i64 k ∧ ∃ n, w7.drewN n = wr) (fun i _ => R2 - (intOf i).toNat)
        case atStart => exact ⟨0, Nat.zero_le _, rfl, 0, rfl⟩
        case round =>
          obtain ⟨k, hka, rfl, nd, rfl⟩ := hrel
          by_cases hlt1 : k < R2
          · have hlt2 : k < R1 := by have := HR.out; omega
            obtain ⟨ga, ha, hca, hxa⟩ := Hr5.out k hlt2
            obtain ⟨gb, hb, hcb, hxb⟩ := Hr7.out k hlt1
            subst ha
            subst hb
            rw [Hg1.out k hlt2] at hxa
            rw [Hg2.out k hlt1] at hxb
            have hkc := known_cases l k
            have hkn := Hmore.out k (by have := HR.out; omega)
            generalize knownK l k = K at *
            generalize knownK l2 k = K2 at *
            rcases hkc with rfl | rfl | rfl
            · have h := hkn (by omega)
              subst h
              go_wp2_with fail
              go_quiet (fail)
              go_wp2
              go_roundw
              case rel => exact ⟨k + 1, by omega, by go_num, _, rfl⟩
              case measure => simp [intOf]; omega
            · have h := hkn (by omega)
              subst h
              go_wp2_with fail
              go_quiet (fail)
              go_wp2
              go_roundw
              case rel => exact ⟨k + 1, by omega, by go_num, _, rfl⟩
              case measure => simp [intOf]; omega
            · clear hkn
              go_wp2_with fail
              go_quiet (fail)
              go_wp2
              go_roundw
              case rel => exact ⟨k + 1, by omega, by go_num, _, rfl⟩
              case measure => simp [intOf]; omega
          · obtain rfl : k = R2 := by omega
            go_wp2_with fail
            refine (alive _).mono ?_
            rintro e w' ⟨rfl, rfl⟩
            by_cases h0 : k = 0
            · have h0' : (k : Int) = 0 := by omega
              go_wp2
              go_ret
              exact ⟨rfl, below_drewN hB7 _⟩
            · have h0' : ¬ (k : Int) = 0 := by omega
              have hR : (R1 : Int) = p := by have := HR.out; omega
              go_wp2
              go_ret
              exact ⟨rfl, below_drewN hB7 _⟩
  · obtain ⟨e1, e2⟩ := Hon0.out h1
    subst e1
    subst e2
    clear h1 Hon1 Hon0 Hok1
    go_wp2_with fail
    refine (Hik.out _ _ _ HQ_1.out.rd (Nat.le_refl _)).mono ?_
    rintro e w2 ⟨u2, rfl, hown2, hb2⟩
    obtain ⟨a2, c2, hv2⟩ := own_len hown2
    subst hv2
    have HU_2 := Lib.hid hown2
    clear hown2
    have HQ_2 := Lib.hid (HQ_1.out.below hb2)
    have hs2 := hb2.size
    have hB2 : Below w.heap.size w w2 := hB1.trans (hb2.mono hB1.size)
    clear hb2
    go_wp2_with fail
    refine (Hio.out _ _ _ HQ_2.out.rd (Nat.le_refl _)).mono ?_
    rintro e w3 ⟨rfl, hb3⟩
    have HU_3 := Lib.hid (own_below HU_2.out hb3)
    have HQ_3 := Lib.hid (HQ_2.out.below hb3)
    have hs3 := hb3.size
    have hB3 : Below w.heap.size w w3 := hB2.trans (hb3.mono hB2.size)
    clear hb3
    go_wp2
    go_loop [8] (fun i => i = .int .i64 (0 : Nat)) (fun _ => 0)
    case atStart => rfl
    case round =>
      subst hrel
      rw [show ((0 : Nat) : Int) = 0 from rfl]
      by_cases h0R : 0 < R1
      all_goals
        go_wp2_with fail
        refine (Hso.out _ _ _ HQ_3.out.rd (Nat.le_refl _)).mono ?_
        rintro e w4 ⟨rfl, hb4⟩
        have HU_4 := Lib.hid (own_below HU_3.out hb4)
        have HQ_4 := Lib.hid (HQ_3.out.below hb4)
        have hs4 := hb4.size
        have hB4 : Below w.heap.size w w4 := hB3.trans (hb4.mono hB3.size)
        clear hb4
        by_cases h6 : 6 ≤ qs.length
        case pos =>
          have h6' : (6 : Int) ≤ (qs.length : Int) := by omega
          go_wp2_with fail
          refine (alive _).mono ?_
          rintro e w' ⟨rfl, rfl⟩
          go_wp2
          go_ret
          exact ⟨rfl, hB4⟩
        have h6' : ¬ (6 : Int) ≤ (qs.length : Int) := by omega
        have hown40 : (w4.alloc (.cells #[] TC)).ownsRow w4.heap.size TC 2 (.slice (some ⟨w4.heap.size, 0, none⟩) 0 0) 0 [] := World.ownsRow_made _ _ 0 (Nat.le_refl _) (by unfold maxLen; omega) rfl
        have hb40 : Below w4.heap.size w4 (w4.alloc (.cells #[] TC)) := (Below.refl _ _).alloc (Nat.le_refl _) _
        have Hq40 := Lib.hid (HQ_4.out.rd.below (w' := w4.alloc (.cells #[] TC)) hb40.block)
        have Hown40 := Lib.hid hown40
        have Hb40 := Lib.hid hb40
        clear hown40 hb40
        go_wp2_with (first
          | (at_builtin; refine wpList_append_story rfl (.tmp 57) (.tmp 58) rfl Ci.out Cz0.out Cz1.out Cz2.out rfl rfl Hown40.out Hq40.out (by omega) (by simp) ?_; intro v5 w5 hown5 hgr5 _
             have Hb5 := Lib.hid (below_grown_row Hb40.out hgr5 (by simp) (fun q hq => (Hown40.out.lt q hq).1))
             have hs5 := Hb5.out.size
             rw [Nat.zero_add, List.nil_append] at hown5
             have Hown5 := Lib.hid hown5
             clear hown5 hgr5)
          | (at_builtin; refine wpList_append_own _ rfl (.tmp 59) (.tmp 63) 23 rfl w4.heap.size TC ic (.agg #[.int .i64 0, .slice none 0 0]) 2 32 Try.underlying23 Ci.out Cz0.out Cz1.out Cz2.out rfl (by decide) _ _ _ rfl ((Hown5.out.alloc _).alloc _) ⟨w5.heap.size + 1, 0, none⟩ 1 1 (ccells [(.slice (some ⟨w5.heap.size, 0, none⟩) 1 1, (0, [(1, 0)]))]) rfl (by rw [ccells_length]; rfl) (newsC _ _ (by simp) _ _ _ _) (ccells_one (by simp [Value.oneCell'])) (by unfold maxLen; omega) (by omega) (by simp; omega) ?_; intro v6 w6 hown6 hgr6 _
             have Hadd := Lib.hid (more_added Hb5.out Hown5.out HQ_4.out.rd hown6 hgr6)
             have HU_6 := Lib.hid (own_below HU_4.out Hadd.out.2)
             have hB6 : Below w.heap.size w w6 := hB4.trans (Hadd.out.2.mono hB4.size)
             clear hown6 hgr6)
          | fail)
        refine (Hik2.out _ _ _ _ Hadd.out.1 (Nat.le_refl _)).mono ?_
        rintro e w7 ⟨u7, rfl, hown7, hb7⟩
        obtain ⟨a7, c7, hv7⟩ := own_len hown7
        subst hv7
        have Hr7 := Lib.hid (row_at hown7)
        have Hr5 := Lib.hid (row_at (own_below HU_6.out hb7))
        have hB7 : Below w.heap.size w w7 := hB6.trans (hb7.mono hB6.size)
        clear hown7 hb7
        go_wp2
        go_loopw [10] (fun i wr => ∃ k : Nat, k ≤ R2 ∧ i = .int .i64 k ∧ ∃ n, w7.drewN n = wr) (fun i _ => R2 - (intOf i).toNat)
        case atStart => exact ⟨0, Nat.zero_le _, rfl, 0, rfl⟩
        case round =>
          obtain ⟨k, hka, rfl, nd, rfl⟩ := hrel
          by_cases hlt1 : k < R2
          · have hlt2 : k < R1 := by have := HR.out; omega
            obtain ⟨ga, ha, hca, hxa⟩ := Hr5.out k hlt2
            obtain ⟨gb, hb, hcb, hxb⟩ := Hr7.out k hlt1
            subst ha
            subst hb
            rw [Hg1.out k hlt2] at hxa
            rw [Hg2.out k hlt1] at hxb
            have hkc := known_cases l k
            have hkn := Hmore.out k (by have := HR.out; omega)
            generalize knownK l k = K at *
            generalize knownK l2 k = K2 at *
            rcases hkc with rfl | rfl | rfl
            · have h := hkn (by omega)
              subst h
              go_wp2_with fail
              go_quiet (fail)
              go_wp2
              go_roundw
              case rel => exact ⟨k + 1, by omega, by go_num, _, rfl⟩
              case measure => simp [intOf]; omega
            · have h := hkn (by omega)
              subst h
              go_wp2_with fail
              go_quiet (fail)
              go_wp2
              go_roundw
              case rel => exact ⟨k + 1, by omega, by go_num, _, rfl⟩
              case measure => simp [intOf]; omega
            · clear hkn
              go_wp2_with fail
              go_quiet (fail)
              go_wp2
              go_roundw
              case rel => exact ⟨k + 1, by omega, by go_num, _, rfl⟩
              case measure => simp [intOf]; omega
          · obtain rfl : k = R2 := by omega
            go_wp2_with fail
            refine (alive _).mono ?_
            rintro e w' ⟨rfl, rfl⟩
            by_cases h0 : k = 0
            · have h0' : (k : Int) = 0 := by omega
              go_wp2
              go_ret
              exact ⟨rfl, below_drewN hB7 _⟩
            · have h0' : ¬ (k : Int) = 0 := by omega
              have hR : (R1 : Int) = p := by have := HR.out; omega
              go_wp2
              go_ret
              exact ⟨rfl, below_drewN hB7 _⟩

set_option maxRecDepth 100000 in
theorem lifted (os : Os) (started : os.Started) (H : Type) (enc : TypeId × Value → H) :
    ReturnsInHanded {} Try.checked os 8 .any (Rows.fnKnownFollowsSpec.pre6 enc Try.prog Try.f8 Rows.fnKnownFollowsRow.domain false) (Rows.fnKnownFollowsSpec.post enc Try.prog Try.f8 false true false false) := by
  refine returnsInHanded_of_change (C := Try.checked) Try.own started (by kernel_rfl) Try.func8
    (ChangeSpec.witness6 (enc := enc) (C := Try.checked) false ⟨#[], #[.slice none 0 0], []⟩ 8 (by kernel_rfl) (by kernel_rfl) (by kernel_rfl) (by kernel_rfl)) ?_
  intro W base args ds gs before hval0 hW hcnd _
  have hval : ∀ (j : Nat) t v, Try.f8.params[j]? = some t → args[j]? = some v → Value.okWide Try.prog W .any base t v := hval0
  have hW' := hW
  obtain ⟨p, q, hA0, hV, rfl, hfz, hnd⟩ := hW
  have hA : DataW.TrodAll enc Try.prog W 0 (fun _ => true) true Try.f8.params.toList args.toList ds p := hA0
  rw [Try.params8] at hA hval
  obtain ⟨v0, vs0, d0, ds0, p0, q0, hargs, rfl, rfl, h0, r0⟩ := trodAll_cons hA
  obtain ⟨rfl, rfl, rfl⟩ := trodAll_nil r0
  obtain rfl : args = #[v0] := by cases args; simp_all
  obtain ⟨rfl, rfl⟩ := trodVars_none hV
  obtain ⟨a0, len0, cap0, rfl⟩ := okWide_slice Try.underlying22 (hval 0 22 v0 rfl rfl)
  have k0 := h0
  have lt0 : ∀ x ∈ p0, x.block < W.heap.size := by obtain ⟨m, hm⟩ := k0; exact DataW.trod_lt m _ _ _ hm
  obtain ⟨z0, w0⟩ : ∃ zs, IsRow .u8 W a0 len0 cap0 zs := by
    obtain ⟨fuel, hf⟩ := h0
    rcases open_ints Try.underlying22 Try.underlying5 (by kernel_rfl) hf with ⟨hcs, _⟩ | ⟨x, l, c, zs, hcs, _, hl, hm, hz, _, hcell, hwz⟩
    · simp [Value.cells] at hcs
      obtain ⟨rfl, rfl, rfl⟩ := hcs
      exact ⟨[], .inl ⟨rfl, rfl, rfl, rfl⟩⟩
    · simp [Value.cells] at hcs
      obtain ⟨rfl, rfl, rfl⟩ := hcs
      exact ⟨zs, .inr ⟨_, rfl, hl, hm, by simpa using hz, hcell, hwz⟩⟩
  clear hA0 hval0
  refine (walk _ _ W (RdBytes.of_row w0)).mono fun e W' ⟨he, bel⟩ => ?_
  subst he
  exact ⟨_, rfl, _, _, _, [], _, [], hW', trodAll_mk1 (shut_bool Try.underlying4 _), (trodAll_cons_mk (Below.trod Try.laidOut (by kernel_rfl) (of_decide_eq_true (by kernel_rfl)) k0 bel lt0) trodAll_mk0), rfl, bel.frame _, fun h => by cases h⟩

theorem closed : joinedFacts Try.pinned.checked.prog 8 Try.f8 Rows.fnKnownFollowsSpec Rows.fnKnownFollowsRow = true := by
  unfold joinedFacts
  exact (and_tt (and_tt (and_tt (and_tt (and_tt (and_tt (and_tt (and_tt (and_tt (and_tt (and_tt (and_tt (and_tt (and_tt (and_tt (and_tt (and_tt (and_tt (and_tt (and_tt (and_tt (and_tt (and_tt (and_tt (and_tt (and_tt (and_tt (and_tt (and_tt (and_tt (and_tt (by kernel_rfl) (by kernel_rfl)) (by kernel_rfl)) (by kernel_rfl)) (by kernel_rfl)) (by kernel_rfl)) (by kernel_rfl)) (by kernel_rfl)) (by kernel_rfl)) (by kernel_rfl)) (by kernel_rfl)) (by kernel_rfl)) (by kernel_rfl)) (by kernel_rfl)) (by kernel_rfl)) (by kernel_rfl)) (by kernel_rfl)) (by kernel_rfl)) (by kernel_rfl)) (by kernel_rfl)) (by kernel_rfl)) (by kernel_rfl)) (by kernel_rfl)) (by kernel_rfl)) (by kernel_rfl)) Try.mayEnter0) (lifted_tt Try.lifts0 rfl)) (make_tt Try.make0 rfl)) (by kernel_rfl)) (by kernel_rfl)) (by kernel_rfl)) (by kernel_rfl))
theorem over : Rows.fnKnownFollowsRow.holds Try.pinned (OpenSpec.ofChange Rows.fnKnownFollowsSpec) :=
  OpenClaim.holds_of_wide 8 Try.f8 rfl rfl rfl rfl rfl rfl rfl ⟨rfl, rfl, rfl, rfl, rfl⟩ rfl rfl rfl rfl rfl (by kernel_rfl) Try.func8 closed
    (of_decide_eq_true (by kernel_rfl)) (by unfold Func.isWrapper; first | (rw [if_pos (by decide +kernel)]; kernel_rfl) | (rw [if_neg (by decide +kernel)]; exact ⟨rfl, rfl⟩))
    (fun os started H enc _ => lifted os started H enc)

theorem proved : Rows.FnKnownFollowsSaid := over
end Go.Proofs.Ytncihjelpaiocaa.fnKnownFollows


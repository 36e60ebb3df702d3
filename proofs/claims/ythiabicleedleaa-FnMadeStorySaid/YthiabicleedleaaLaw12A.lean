/- A law of stage 12: for each world there is a story. It answers true, whatever the code. No condition. -/
import Derived.Test.YthiabicleedleaaMerged19
import Derived.Test.YthiabicleedleaaClaimI
import Derived.Test.YthiabicleedleaaMerged14
import Derived.Test.YthiabicleedleaaMerged6
import Derived.Test.YthiabicleedleaaMerged4
import Derived.Test.YthiabicleedleaaMerged18
import Derived.Deep.RegionHeld3
import Derived.Deep.Cut
namespace Go.Proofs.Ythiabicleedleaa
open Go.RowKit Go.Joins
theorem madeC_some {p : Int} {X k : Nat} {ms : List (Int × Int)} {c : Cl} (h : madeC p X k ms = some c) : c.1 = (k : Int) ∧ (c.2 = ms ∨ c.2 = ms ++ [(2, 0)]) ∧ claimOk p c = true ∧ mayT p c X = true := by
  unfold madeC at h
  cases hc : claimOk p ((k : Int), ms) with
  | false => rw [hc] at h; cases h
  | true =>
    rw [hc, if_pos rfl] at h
    cases hm : mayT p ((k : Int), ms) X with
    | true =>
      rw [hm, if_pos rfl] at h
      cases h
      exact ⟨rfl, .inl rfl, hc, hm⟩
    | false =>
      rw [hm, if_neg (by decide)] at h
      cases hd : denyOk p ((k : Int), ms) with
      | false => rw [hd] at h; cases h
      | true =>
        rw [hd, if_pos rfl] at h
        have e : denyV p ((k : Int), ms) = ((k : Int), ms ++ [(2, 0)]) := by unfold denyV; rw [hd]; rfl
        rw [e] at h
        cases h
        have h2 := (denyOk_both hd).2
        have h3 := denyL_may (p := p) (c := ((k : Int), ms)) (claimOk_iff.1 hc).2.2.1 X
        rw [hm] at h3
        exact ⟨rfl, .inr rfl, h2, h3⟩
theorem madeK_law {p : Int} {X : Nat} {ts : Ts} : ∀ (k : Nat) (l : List Cl), madeK p X ts k = some l → l.length = k ∧ (∀ j, j < k → (l.getD j (0, [])).1 = (j : Int) ∧ ((l.getD j (0, [])).2 = ts.getD j [] ∨ (l.getD j (0, [])).2 = ts.getD j [] ++ [(2, 0)])) ∧ ∀ c ∈ l, claimOk p c = true ∧ mayT p c X = true
  | 0, l, h => by
    cases h
    exact ⟨rfl, fun j hj => absurd hj (Nat.not_lt_zero _), fun c hc => by simp at hc⟩
  | k + 1, l, h => by
    rw [madeK] at h
    cases hl : madeK p X ts k with
    | none => rw [hl] at h; cases h
    | some l0 =>
      cases hc : madeC p X k (ts.getD k []) with
      | none => rw [hl, hc] at h; cases h
      | some c =>
        rw [hl, hc] at h
        cases h
        obtain ⟨a1, a2, a3⟩ := madeK_law k l0 hl
        obtain ⟨b1, b2, b3, b4⟩ := madeC_some hc
        refine ⟨by simp [a1], fun j hj => ?_, fun d hd => ?_⟩
        · by_cases hjk : j < k
          · rw [show (l0 ++ [c]).getD j (0, []) = l0.getD j (0, []) by simp [List.getD, List.getElem?_append_left (show j < l0.length by omega)]]
            exact a2 j hjk
          · obtain rfl : j = k := by omega
            rw [show (l0 ++ [c]).getD j (0, []) = c by simp [List.getD, ← a1]]
            exact ⟨b1, b2⟩
        · rcases List.mem_append.1 hd with hd | hd
          · exact a3 d hd
          · rw [List.mem_singleton] at hd; subst hd; exact ⟨b3, b4⟩
theorem made_law {p x : Int} {ts : Ts} {S : List Cl} (h : madeF p x ts = some S) : wOk p x = true ∧ S.length = ts.length ∧ (∀ k, k < ts.length → (S.getD k (0, [])).1 = (k : Int) ∧ ((S.getD k (0, [])).2 = ts.getD k [] ∨ (S.getD k (0, [])).2 = ts.getD k [] ++ [(2, 0)])) ∧ storyOk p S = true ∧
    decide (x ∈ nums (wlp p (storyV p S))) = true := by
  unfold madeF at h
  cases hw : (wOk p x && decide ((ts.length : Int) ≤ p)) with
  | false => rw [hw] at h; cases h
  | true =>
    rw [hw, if_pos rfl] at h
    rw [Bool.and_eq_true, decide_eq_true_eq] at hw
    obtain ⟨hw, hl⟩ := hw
    obtain ⟨a1, a2, a3⟩ := madeK_law _ _ h
    obtain ⟨h1, h4, hx0, hx16⟩ := wOk_lt hw
    obtain ⟨X, rfl⟩ := Int.eq_ofNat_of_zero_le hx0
    have hsok : storyOk p S = true := storyOk_iff.2 ⟨fun c hc => (a3 c hc).1, by simp [pOk]; omega, by omega⟩
    refine ⟨hw, a1, a2, hsok, ?_⟩
    have hX : X < 2 ^ p.toNat := by
      have := (wOk_iff.1 hw).2.2.2
      exact_mod_cast this
    have hT : storyN p S < 2 ^ 2 ^ p.toNat := tabF_lt _ _
    have htok : tOk p (storyN p S : Int) = true := tOk_iff.2 ⟨h1, h4, by omega, by exact_mod_cast hT⟩
    rw [storyV_yes hsok, wlp_yes htok, decide_eq_true_eq]
    unfold nums
    rw [List.mem_map]
    refine ⟨X, ?_, rfl⟩
    rw [Int.toNat_natCast, wl_mem]
    refine ⟨hX, ?_⟩
    unfold storyN
    rw [tabF_bit, decide_eq_true hX, Bool.true_and]
    unfold storyT
    rw [List.all_eq_true]
    intro c hc
    exact (a3 c hc).2
end Go.Proofs.Ythiabicleedleaa
namespace Go.Proofs.Ythiabicleedleaa.fnMadeStory
open Go.ChangeShapes Go.WideShapes Go.ChangeAt Go.RowKit Go.Joins
attribute [local irreducible] holds tabN tabV holdsV sameV followsV alwaysV matterV mirV mirOk mcells tmOf claimOk mayT mayV ctabV ctabN storyV storyOk storyN storyT ctermV ctermL denyV denyOk ccells madeC madeK madeF wl wlp
open Go.ChangeMaps (open_string shut_string)
set_option linter.unusedVariables false
set_option maxRecDepth 100000 in
set_option maxHeartbeats 40000000 in
theorem walk (a0 : Value) (n0 : Nat) (w : World) (w0 : RdBytes w w.heap.size a0 n0) :
    Calls Try.prog 3 #[a0] w fun e w' => e = .returned (.bool true) ∧ Below w.heap.size w w' := by
  have hr := w0
  by_cases hbig : n0 ≤ 1048576
  case neg =>
    obtain ⟨ao, cap, rfl, hl, hm, hc⟩ := w0
    have hbig' := code_big hbig
    unfold maxLen at hm
    clear hc hr hbig
    go_enter Try.func3, Try.ntmps3
    go_wp2
    go_ret
    exact ⟨rfl, Below.refl _ _⟩
  have hbig' : (n0 : Int) ≤ 1048576 := by omega
  clear hbig
  obtain ⟨ao, cap, rfl, hl, hm, hc⟩ := w0
  have Hr := Lib.hid hr
  clear hc hr hl hm
  go_enter Try.func3, Try.ntmps3
  go_wp2_with fail
  refine (drawMadeStory _ _ _ Hr.out).mono ?_
  rintro e w1 ⟨p, x, v, rs, _hpx, rfl, hst, hlen20, hrl5, hB1⟩
  have HT1 := Lib.hid hst.rd
  obtain ⟨lo, lc, hvf⟩ := own_len hst.1
  subst hvf
  have Hlen20 := Lib.hid hlen20
  obtain ⟨im, hmi, hmz0, hmz1, hmz2⟩ := info_parts Try.infoM12
  have Mi := Lib.hid hmi; clear hmi
  have Mz0 := Lib.hid hmz0; clear hmz0
  have Mz1 := Lib.hid hmz1; clear hmz1
  have Mz2 := Lib.hid hmz2; clear hmz2
  have Hsz : Hid (∀ r ∈ rs, r.2.length ≤ 2000000) := fun r hr => by have := hlen20 r hr; omega
  have hli := fun B u W h h2 => implMadeStory p x rs Hsz.out B u W h h2
  have hls2 := fun B u W h h2 => specMadeStory p x rs Hsz.out B u W h h2
  unfold StoryOut at hli hls2
  clear hst hlen20 _hpx
  cases hm : madeF p x (rs.map (·.2)) with
  | none =>
    rw [hm] at hli hls2
    have Hli : Hid (∀ B u W, RdTerms W B u rs → B ≤ W.heap.size → Calls Try.prog 10 #[.int .i64 p, .int .i64 x, u] W fun e w' => ∃ v us, e = .returned (.tuple #[v, .bool false]) ∧ us.map (·.2) = ([] : List Cl) ∧ StoryIn w' W.heap.size W.heap.size v us ∧ Apart us ∧ Below W.heap.size W w') := hli
    have Hls : Hid (∀ B u W, RdTerms W B u rs → B ≤ W.heap.size → Calls Try.prog 11 #[.int .i64 p, .int .i64 x, u] W fun e w' => ∃ v us, e = .returned (.tuple #[v, .bool false]) ∧ us.map (·.2) = ([] : List Cl) ∧ StoryIn w' W.heap.size W.heap.size v us ∧ Apart us ∧ Below W.heap.size W w') := hls2
    clear hli hls2 hm
    go_wp2_with fail
    refine (Hli.out _ _ _ HT1.out (Nat.le_refl _)).mono ?_
    rintro e w2 ⟨v2, us2, rfl, hus2, hst2, _, hb2⟩
    have HT2 := Lib.hid ((HT1.out.below (w' := w2) hb2.block).mono hb2.size)
    have hB2 : Below w.heap.size w w2 := hB1.trans (hb2.mono hB1.size)
    have HS22 := Lib.hid hst2.rd
    have Hus2 := Lib.hid hus2
    obtain ⟨fo2, fc2, hf2⟩ := own_len hst2.1
    subst hf2
    clear hb2 hst2 hus2
    go_wp2_with fail
    refine (Hls.out _ _ _ HT2.out (Nat.le_refl _)).mono ?_
    rintro e w3 ⟨v3, us3, rfl, hus3, hst3, _, hb3⟩
    have HT3 := Lib.hid ((HT2.out.below (w' := w3) hb3.block).mono hb3.size)
    have HS23 := Lib.hid ((HS22.out.below (w' := w3) hb3.block).mono hb3.size)
    have hB3 : Below w.heap.size w w3 := hB2.trans (hb3.mono hB2.size)
    have HS33 := Lib.hid hst3.rd
    have Hus3 := Lib.hid hus3
    obtain ⟨fo3, fc3, hf3⟩ := own_len hst3.1
    subst hf3
    clear hb3 hst3 hus3
    have Hsame := Lib.hid (sameStory us2 us3 (Hus2.out.trans Hus3.out.symm) w3.heap.size w3.heap.size _ _ w3 HS23.out HS33.out (Nat.le_refl _) (Nat.le_refl _))
    have hz : us2.length = 0 := by have := congrArg List.length Hus2.out; simpa using this
    generalize us2.length = n2 at *
    subst hz
    go_wp2_with fail
    refine (Hsame.out).mono ?_
    rintro e w4 ⟨rfl, hb4⟩
    have hB4 : Below w.heap.size w w4 := hB3.trans (hb4.mono hB3.size)
    clear hb4
    go_wp2_with fail
    refine (alive _).mono ?_
    rintro e w' ⟨rfl, rfl⟩
    go_wp2
    go_ret
    exact ⟨rfl, hB4⟩
  | some S =>
  obtain ⟨hwok, hSl, hat, hsok, hhas⟩ := made_law hm
  have hmap : (rs.map (·.2)).length = rs.length := by simp
  rw [hmap] at hSl hat
  obtain ⟨_, _, hx0, hx16⟩ := wOk_lt hwok
  rw [hm] at hli hls2
  have Hli : Hid (∀ B u W, RdTerms W B u rs → B ≤ W.heap.size → Calls Try.prog 10 #[.int .i64 p, .int .i64 x, u] W fun e w' => ∃ v us, e = .returned (.tuple #[v, .bool true]) ∧ us.map (·.2) = S ∧ StoryIn w' W.heap.size W.heap.size v us ∧ Apart us ∧ Below W.heap.size W w') := hli
  have Hls : Hid (∀ B u W, RdTerms W B u rs → B ≤ W.heap.size → Calls Try.prog 11 #[.int .i64 p, .int .i64 x, u] W fun e w' => ∃ v us, e = .returned (.tuple #[v, .bool true]) ∧ us.map (·.2) = S ∧ StoryIn w' W.heap.size W.heap.size v us ∧ Apart us ∧ Below W.heap.size W w') := hls2
  have Hat := Lib.hid hat
  clear hli hls2 hm hmap hat
  go_wp2_with fail
  refine (Hli.out _ _ _ HT1.out (Nat.le_refl _)).mono ?_
  rintro e w2 ⟨v2, us2, rfl, hus2, hst2, _, hb2⟩
  have HT2 := Lib.hid ((HT1.out.below (w' := w2) hb2.block).mono hb2.size)
  have hB2 : Below w.heap.size w w2 := hB1.trans (hb2.mono hB1.size)
  have HS22 := Lib.hid hst2.rd
  have Hus2 := Lib.hid hus2
  obtain ⟨fo2, fc2, hf2⟩ := own_len hst2.1
  subst hf2
  clear hb2 hst2 hus2
  go_wp2_with fail
  refine (Hls.out _ _ _ HT2.out (Nat.le_refl _)).mono ?_
  rintro e w3 ⟨v3, us3, rfl, hus3, hst3, _, hb3⟩
  have HT3 := Lib.hid ((HT2.out.below (w' := w3) hb3.block).mono hb3.size)
  have HS23 := Lib.hid ((HS22.out.below (w' := w3) hb3.block).mono hb3.size)
  have hB3 : Below w.heap.size w w3 := hB2.trans (hb3.mono hB2.size)
  have HS33 := Lib.hid hst3.rd
  have Hus3 := Lib.hid hus3
  obtain ⟨fo3, fc3, hf3⟩ := own_len hst3.1
  subst hf3
  clear hb3 hst3 hus3
  have Hsame := Lib.hid (sameStory us2 us3 (Hus2.out.trans Hus3.out.symm) w3.heap.size w3.heap.size _ _ w3 HS23.out HS33.out (Nat.le_refl _) (Nat.le_refl _))
  have hul : us2.length = rs.length := by have := congrArg List.length Hus2.out; rw [List.length_map] at this; omega
  have Hq : Hid (∀ k, k < rs.length → (us2.getD k qc0).2.1 = (k : Int) ∧ ((us2.getD k qc0).2.2 = (rs.getD k rt0).2 ∨ (us2.getD k qc0).2.2 = (rs.getD k rt0).2 ++ [(2, 0)])) := fun k hk => by
    have h := Hat.out k hk
    rw [show S.getD k (0, []) = (us2.getD k qc0).2 by rw [← Hus2.out]; simp [List.getD, hul, hk]] at h
    rw [show (rs.map (·.2)).getD k [] = (rs.getD k rt0).2 by simp [List.getD, hk]] at h
    exact h
  have Hsok := Lib.hid (fun B u W h h2 => implStoryOk p us2 B u W h h2)
  have Htab := Lib.hid (fun B u W h h2 => implStoryTable p us2 B u W h h2)
  rw [Hus2.out, hsok] at Hsok
  rw [Hus2.out] at Htab
  have Hwi := Lib.hid (fun W => implWorldsIn p (storyV p S) W)
  have Hhas := Lib.hid hhas
  generalize storyV p S = T at *
  clear Hus2 Hus3 hsok hSl hwok hhas Hat
  obtain ⟨_, _, hv', hlc, hlm, _, _⟩ := HT3.out
  cases hv'
  obtain ⟨_, _, hv2, hfc, hfm, _, _⟩ := HS23.out
  cases hv2
  unfold maxLen at hlm hfm
  generalize hu2 : us2.length = n2 at *
  subst hul
  generalize hn : rs.length = n at *
  have Hu2 := Lib.hid hu2
  have Hn := Lib.hid hn
  clear hu2 hn
  go_wp2_with fail
  refine (Hsame.out).mono ?_
  rintro e w4 ⟨rfl, hb4⟩
  have HT4 := Lib.hid ((HT3.out.below (w' := w4) hb4.block).mono hb4.size)
  have HS24 := Lib.hid ((HS23.out.below (w' := w4) hb4.block).mono hb4.size)
  have hB4 : Below w.heap.size w w4 := hB3.trans (hb4.mono hB3.size)
  clear hb4
  have HcT : Hid (∀ k, k < n → ∃ b off, lo = some ⟨b, off, none⟩ ∧ b < w4.heap.size ∧ w4.cell? ⟨b, off + k, none⟩ = some (rs.getD k rt0).1) := fun k hk => by
    obtain ⟨ao', cp', e1, _, _, _, e4⟩ := HT4.out
    rw [Hn.out] at e1
    cases e1
    exact e4 k (by rw [Hn.out]; exact hk)
  have HcS : Hid (∀ k, k < n → ∃ b off, fo2 = some ⟨b, off, none⟩ ∧ b < w4.heap.size ∧ w4.cell? ⟨b, off + k * 2, none⟩ = some (.int .i64 (us2.getD k qc0).2.1) ∧ w4.cell? ⟨b, off + k * 2 + 1, none⟩ = some (us2.getD k qc0).1) := fun k hk => by
    obtain ⟨ao', cp', e1, _, _, _, e4⟩ := HS24.out
    rw [Hu2.out] at e1
    cases e1
    exact e4 k (by rw [Hu2.out]; exact hk)
  have HmT : Hid (∀ k, k < n → RdMarks w4 w4.heap.size (rs.getD k rt0).1 (rs.getD k rt0).2) := fun k hk => HT4.out.get (by rw [Hn.out]; exact hk)
  have HmS : Hid (∀ k, k < n → RdMarks w4 w4.heap.size (us2.getD k qc0).1 (us2.getD k qc0).2.2) := fun k hk => by
    obtain ⟨_, _, _, _, _, hi, _⟩ := HS24.out
    rw [show us2.getD k qc0 = us2[k]'(by rw [Hu2.out]; exact hk) by simp [List.getD, Hu2.out, hk]]
    exact (hi _ (List.getElem_mem _)).1
  have Hln : Hid (∀ k, k < n → (rs.getD k rt0).2.length ≤ 20) := fun k hk => by
    rw [show rs.getD k rt0 = rs[k]'(by rw [Hn.out]; exact hk) by simp [List.getD, Hn.out, hk]]
    exact Hlen20.out _ (List.getElem_mem _)
  have HB4 := Lib.hid hB4
  have HS4 : Hid (RdStory w4 w4.heap.size (.slice fo2 n fc2) us2) := HS24.out
  clear hB1 hB2 hB3 hB4 HT3 HT4 HS23 HS33 HS24 Hlen20
  go_wp2
  go_loopw [10, 11] (fun i _ wr => ∃ k : Nat, k ≤ n ∧ i = .int .i64 k ∧ Below w4.heap.size w4 wr) (fun i _ _ => n - (intOf i).toNat)
  case atStart => exact ⟨0, Nat.zero_le _, rfl, Below.refl _ _⟩
  case round =>
    obtain ⟨k, hk, rfl, hbr⟩ := hrel
    have hsr := hbr.size
    by_cases hlt : k < n
    · obtain ⟨tb, tf, rfl, htb, htc0⟩ := HcT.out k hlt
      obtain ⟨sb, so, rfl, hsb, hsc0, hsd0⟩ := HcS.out k hlt
      have hmt := (HmT.out k hlt).below (w' := wr) hbr.block
      have hms := (HmS.out k hlt).below (w' := wr) hbr.block
      have hln := Hln.out k hlt
      obtain ⟨hq1, hq2⟩ := Hq.out k hlt
      rw [hq1] at hsc0
      have htc := (hbr.cell (p := ⟨tb, tf + k, none⟩) htb).trans htc0
      have hsc := (hbr.cell (p := ⟨sb, so + k * 2, none⟩) hsb).trans hsc0
      have hsd := (hbr.cell (p := ⟨sb, so + k * 2 + 1, none⟩) hsb).trans hsd0
      generalize (rs.getD k rt0).1 = tv at *
      generalize (rs.getD k rt0).2 = ms at *
      generalize (us2.getD k qc0).1 = sv at *
      generalize (us2.getD k qc0).2.2 = zs at *
      have hi64 : I64s ms := by obtain ⟨_, _, _, _, _, hi, _⟩ := hmt; exact hi
      have Hi2 : Hid (I64s (ms ++ [(2, 0)])) := I64s_append hi64 (I64s_one (I64_small (by omega) (by omega)) (I64_small (by omega) (by omega)))
      have hbn : Below wr.heap.size wr (wr.alloc (.cells #[] TM)) := (Below.refl _ _).alloc (Nat.le_refl _) _
      have Hnew := Lib.hid (show (wr.alloc (.cells #[] TM)).ownsRow wr.heap.size TM 2 (.slice (some ⟨wr.heap.size, 0, none⟩) 0 0) 0 [] from World.ownsRow_made _ _ 0 (Nat.le_refl _) (by unfold maxLen; omega) rfl)
      have Hrd := Lib.hid (hmt.below (w' := wr.alloc (.cells #[] TM)) (fun q hq => hbn.block q (by omega)))
      have Hbn := Lib.hid hbn
      have HmT2 := Lib.hid hmt
      have HmS2 := Lib.hid hms
      have Hbr := Lib.hid hbr
      obtain ⟨ta, tc, htv⟩ : ∃ a c, tv = .slice a ms.length c := by obtain ⟨a, c, h, _⟩ := hmt; exact ⟨a, c, h⟩
      obtain ⟨sa, sc, hsv⟩ : ∃ a c, sv = .slice a zs.length c := by obtain ⟨a, c, h, _⟩ := hms; exact ⟨a, c, h⟩
      subst htv
      subst hsv
      have htw : tb < wr.heap.size := by omega
      have hsw : sb < wr.heap.size := by omega
      clear htc0 hsc0 hsd0 hmt hms hbn hbr hq1
      go_upto_region 14 with (first
        | (at_builtin; refine wpList_append_marks12 rfl (.tmp 58) (.tmp 62) rfl Mi.out Mz0.out Mz1.out Mz2.out rfl rfl Hnew.out Hrd.out (by omega) (by simp) ?_
           go_must (intro v5 w5 hown5 hgr5 _
                    rw [Nat.zero_add, List.nil_append] at hown5
                    have hb5 : Below wr.heap.size wr w5 := Hbn.out.grown hgr5 (by simp) (fun q hq => (Hnew.out.lt q hq).1)
                    have Hown5 := Lib.hid hown5
                    have Hb5 := Lib.hid hb5
                    clear hown5 hgr5 hb5))
        | (at_builtin; refine wpList_append_own _ rfl (.tmp 63) (.tmp 65) 31 rfl wr.heap.size TM im (.agg #[.int .i64 0, .int .i64 0]) 2 16 Try.underlying31 Mi.out Mz0.out Mz1.out Mz2.out rfl (by decide) v5 ms.length (mcells ms) rfl (Hown5.out.alloc _) ⟨w5.heap.size, 0, none⟩ 1 1 (mcells [(2, 0)]) rfl (mcells_length _) (news2 _ _ rfl _ _ _) (mcells_one _) (by unfold maxLen; omega) (by omega) (by have := Hb5.out.size; simp; omega) ?_
           go_must (intro v6 w6 hown6 hgr6 _
                    have hb6 : Below wr.heap.size wr w6 := (Hb5.out.alloc Hb5.out.size _).grown hgr6 (by have := Hb5.out.size; simp; omega) (fun q hq => (Hown5.out.lt q hq).1)
                    have Hnot : Hid (RdMarks w6 w6.heap.size v6 (ms ++ [(2, 0)])) := RdMarks.of_own (base := wr.heap.size) (e := TM) (by rw [mcells_append, List.length_append]; exact hown6) Hi2.out
                    obtain ⟨na, nc, hv6⟩ : ∃ a c, v6 = .slice a (ms.length + 1) c := own_len hown6
                    subst hv6
                    have Hb6 := Lib.hid hb6
                    clear hown6 hgr6 hb6))
        | fail)
      have hs6 := Hb6.out.size
      have hb46 : Below w4.heap.size w4 w6 := Hbr.out.trans (Hb6.out.mono hsr)
      have HmT6 := Lib.hid (HmT2.out.below (w' := w6) (fun q hq => Hb6.out.block q (by omega)))
      have HmS6 := Lib.hid (HmS2.out.below (w' := w6) (fun q hq => Hb6.out.block q (by omega)))
      have k1 := (Hb6.out.cell (p := ⟨tb, tf + k, none⟩) (by show tb < _; omega)).trans htc
      have k2 := (Hb6.out.cell (p := ⟨sb, so + k * 2, none⟩) (by show sb < _; omega)).trans hsc
      have k3 := (Hb6.out.cell (p := ⟨sb, so + k * 2 + 1, none⟩) (by show sb < _; omega)).trans hsd
      have Hb46 := Lib.hid hb46
      clear hb46 htc hsc hsd
      have Hs1 := Lib.hid (fun W (h1 : RdMarks W w4.heap.size (.slice sa zs.length sc) zs) (h2 : RdMarks W w4.heap.size (.slice ta ms.length tc) ms) => sameMarks zs ms _ _ _ _ W h1 h2)
      have Hs2 := Lib.hid (fun W (h1 : RdMarks W w4.heap.size (.slice sa zs.length sc) zs) (h2 : RdMarks W w6.heap.size (.slice na (ms.length + 1) nc) (ms ++ [(2, 0)])) => sameMarks zs (ms ++ [(2, 0)]) _ _ _ _ W h1 h2)
      have hk2 : ((k : Int) != (k : Int)) = false := by rw [bne_eq_false_iff_eq]
      by_cases hz : zs = ms
      · rw [decide_eq_true hz] at Hs1
        clear hq2 Hs2
        clear hz
        refine wp_region_held_drew (S := (fun w' => w'.cell? ⟨tb, tf + k, none⟩ = some (.slice ta ms.length tc) ∧ w'.cell? ⟨sb, so + k * 2, none⟩ = some (.int .i64 k) ∧ w'.cell? ⟨sb, so + k * 2 + 1, none⟩ = some (.slice sa zs.length sc))) (by kernel_rfl) ?_ (fun hHeld => ?_)
        · (try dsimp only); (first | (refine ⟨?_, ?_, ?_⟩ <;> first | go_keep | assumption) | assumption)
        refine wpAnyH_take (i := 0) (v := ?_) rfl (by kernel_rfl) (by kernel_rfl) (by kernel_rfl) (fun _ _ _ h => h) (Or.inl ⟨by rfl, ?_⟩) (by assumption) ?_
        rotate_left
        · (intro w hSw; (try dsimp only at hSw); go_simp; try with_reducible rfl)
        try simp only [List.getElem_toArray, List.getElem_cons_zero, Act.put, List.setIfInBounds_toArray, List.set_cons_zero, List.set_cons_succ]
        refine wpAnyH_take (i := 1) (v := ?_) rfl (by kernel_rfl) (by kernel_rfl) (by kernel_rfl) (fun _ _ _ h => h) (Or.inl ⟨by rfl, ?_⟩) (by assumption) ?_
        rotate_left
        · (intro w hSw; (try dsimp only at hSw); go_simp; try with_reducible rfl)
        try simp only [List.getElem_toArray, List.getElem_cons_succ, List.getElem_cons_zero, Act.put, List.setIfInBounds_toArray, List.set_cons_zero, List.set_cons_succ]
        refine wpAnyH_take (i := 2) (v := ?_) rfl (by kernel_rfl) (by kernel_rfl) (by kernel_rfl) (fun _ _ _ h => h) (Or.inl ⟨by rfl, ?_⟩) (by assumption) ?_
        rotate_left
        · (intro w hSw; (try dsimp only at hSw); go_simp; try with_reducible rfl)
        try simp only [List.getElem_toArray, List.getElem_cons_succ, List.getElem_cons_zero, Act.put, List.setIfInBounds_toArray, List.set_cons_zero, List.set_cons_succ]
        refine wpAnyH_take (i := 3) (v := ?_) rfl (by kernel_rfl) (by kernel_rfl) (by kernel_rfl) (fun _ _ _ h => h) (Or.inl ⟨by rfl, ?_⟩) (by assumption) ?_
        rotate_left
        · (intro w hSw; (try dsimp only at hSw); go_simp; try with_reducible rfl)
        try simp only [List.getElem_toArray, List.getElem_cons_succ, List.getElem_cons_zero, Act.put, List.setIfInBounds_toArray, List.set_cons_zero, List.set_cons_succ]
        refine wpAnyH_take (i := 4) (v := ?_) rfl (by kernel_rfl) (by kernel_rfl) (by kernel_rfl) (fun _ _ _ h => h) (Or.inl ⟨by rfl, ?_⟩) (by assumption) ?_
        rotate_left
        · (intro w hSw; (try dsimp only at hSw); go_simp; try with_reducible rfl)
        try simp only [List.getElem_toArray, List.getElem_cons_succ, List.getElem_cons_zero, Act.put, List.setIfInBounds_toArray, List.set_cons_zero, List.set_cons_succ]
        refine wpAnyH_take (i := 5) (v := ?_) rfl (by kernel_rfl) (by kernel_rfl) (by kernel_rfl) (fun _ _ _ h => h) (Or.inl ⟨by rfl, ?_⟩) (by assumption) ?_
        rotate_left
        · (intro w hSw; (try dsimp only at hSw); go_simp; try with_reducible rfl)
        try simp only [List.getElem_toArray, List.getElem_cons_succ, List.getElem_cons_zero, Act.put, List.setIfInBounds_toArray, List.set_cons_zero, List.set_cons_succ]
        refine wpAnyH_take (i := 6) (v := ?_) rfl (by kernel_rfl) (by kernel_rfl) (by kernel_rfl) (fun _ _ _ h => h) (Or.inl ⟨by rfl, ?_⟩) (by assumption) ?_
        rotate_left
        · (intro w hSw; (try dsimp only at hSw); go_simp; try with_reducible rfl)
        try simp only [List.getElem_toArray, List.getElem_cons_succ, List.getElem_cons_zero, Act.put, List.setIfInBounds_toArray, List.set_cons_zero, List.set_cons_succ]
        refine wpAnyH_take (i := 7) (v := ?_) rfl (by kernel_rfl) (by kernel_rfl) (by kernel_rfl) (fun _ _ _ h => h) (Or.inl ⟨by rfl, ?_⟩) (by assumption) ?_
        rotate_left
        · (intro w hSw; (try dsimp only at hSw); go_simp; try with_reducible rfl)
        try simp only [List.getElem_toArray, List.getElem_cons_succ, List.getElem_cons_zero, Act.put, List.setIfInBounds_toArray, List.set_cons_zero, List.set_cons_succ]
        refine wpAnyH_take (i := 8) (v := ?_) rfl (by kernel_rfl) (by kernel_rfl) (by kernel_rfl) (fun _ _ _ h => h) (Or.inl ⟨by rfl, ?_⟩) (by assumption) ?_
        rotate_left
        · (intro w hSw; (try dsimp only at hSw); go_simp; try with_reducible rfl)
        try simp only [List.getElem_toArray, List.getElem_cons_succ, List.getElem_cons_zero, Act.put, List.setIfInBounds_toArray, List.set_cons_zero, List.set_cons_succ]
        refine wpAnyH_take (i := 9) (v := ?_) rfl (by kernel_rfl) (by kernel_rfl) (by kernel_rfl) (fun _ _ _ h => h) (Or.inl ⟨by rfl, ?_⟩) (by assumption) ?_
        rotate_left
        · (intro w hSw; (try dsimp only at hSw); go_simp; try with_reducible rfl)
        try simp only [List.getElem_toArray, List.getElem_cons_succ, List.getElem_cons_zero, Act.put, List.setIfInBounds_toArray, List.set_cons_zero, List.set_cons_succ]
        refine wpAnyH_take (i := 10) (v := ?_) rfl (by kernel_rfl) (by kernel_rfl) (by kernel_rfl) (fun _ _ _ h => h) (Or.inl ⟨by rfl, ?_⟩) (by assumption) ?_
        rotate_left
        · (intro w hSw; (try dsimp only at hSw); go_simp; try with_reducible rfl)
        try simp only [List.getElem_toArray, List.getElem_cons_succ, List.getElem_cons_zero, Act.put, List.setIfInBounds_toArray, List.set_cons_zero, List.set_cons_succ]
        refine wpAnyH_take (i := 11) (v := ?_) rfl (by kernel_rfl) (by kernel_rfl) (by kernel_rfl) (fun _ _ _ h => h) (Or.inl ⟨by rfl, ?_⟩) (by assumption) ?_
        rotate_left
        · (intro w hSw; (try dsimp only at hSw); go_simp; try with_reducible rfl)
        try simp only [List.getElem_toArray, List.getElem_cons_succ, List.getElem_cons_zero, Act.put, List.setIfInBounds_toArray, List.set_cons_zero, List.set_cons_succ]
        refine wpAnyH_take (i := 12) (v := ?_) rfl (by kernel_rfl) (by kernel_rfl) (by kernel_rfl) (fun _ _ _ h => h) (Or.inl ⟨by rfl, ?_⟩) (by assumption) ?_
        rotate_left
        · (intro w hSw; (try dsimp only at hSw); go_simp; try with_reducible rfl)
        try simp only [List.getElem_toArray, List.getElem_cons_succ, List.getElem_cons_zero, Act.put, List.setIfInBounds_toArray, List.set_cons_zero, List.set_cons_succ]
        refine wpAnyH_take (i := 13) (v := ?_) rfl (by kernel_rfl) (by kernel_rfl) (by kernel_rfl) (fun _ _ _ h => h) (Or.inl ⟨by rfl, ?_⟩) (by assumption) ?_
        rotate_left
        · (intro w hSw; (try dsimp only at hSw); go_simp; try with_reducible rfl)
        try simp only [List.getElem_toArray, List.getElem_cons_succ, List.getElem_cons_zero, Act.put, List.setIfInBounds_toArray, List.set_cons_zero, List.set_cons_succ]
        refine wpAnyH_take (i := 14) (v := ?_) rfl (by kernel_rfl) (by kernel_rfl) (by kernel_rfl) (fun _ _ _ h => h) (Or.inl ⟨by rfl, ?_⟩) (by assumption) ?_
        rotate_left
        · (intro w hSw; (try dsimp only at hSw); go_simp; try with_reducible rfl)
        try simp only [List.getElem_toArray, List.getElem_cons_succ, List.getElem_cons_zero, Act.put, List.setIfInBounds_toArray, List.set_cons_zero, List.set_cons_succ]
        refine wpAnyH_take (i := 15) (v := ?_) rfl (by kernel_rfl) (by kernel_rfl) (by kernel_rfl) (fun _ _ _ h => h) (Or.inl ⟨by rfl, ?_⟩) (by assumption) ?_
        rotate_left
        · (intro w hSw; (try dsimp only at hSw); go_simp; try with_reducible rfl)
        try simp only [List.getElem_toArray, List.getElem_cons_succ, List.getElem_cons_zero, Act.put, List.setIfInBounds_toArray, List.set_cons_zero, List.set_cons_succ]
        refine wpAnyH_take (i := 16) (v := ?_) rfl (by kernel_rfl) (by kernel_rfl) (by kernel_rfl) (fun _ _ _ h => h) (Or.inl ⟨by rfl, ?_⟩) (by assumption) ?_
        rotate_left
        · (intro w hSw; (try dsimp only at hSw); go_simp; try with_reducible rfl)
        try simp only [List.getElem_toArray, List.getElem_cons_succ, List.getElem_cons_zero, Act.put, List.setIfInBounds_toArray, List.set_cons_zero, List.set_cons_succ]
        refine wpAnyH_ready (rs := [17]) (by kernel_rfl) (by simp) (AllReadyH.cons rfl (fun K hK => ?_) AllReadyH.nil)
        go_simp
        with_reducible refine (Hs1.out _ ?_ ?_).mono ?_
        · exact HmS6.out
        · exact HmT6.out
        rintro e w7 ⟨rfl, nd, rfl⟩
        refine hK.out _ _ ?_ (fun hHeld => ?_)
        · (try dsimp only); (first | (refine ⟨?_, ?_, ?_⟩ <;> first | go_keep | assumption) | assumption)
        clear hK K
        try simp only [List.getElem_toArray, List.getElem_cons_succ, List.getElem_cons_zero, Act.put, List.setIfInBounds_toArray, List.set_cons_zero, List.set_cons_succ]
        refine wpAnyH_take (i := 18) (v := ?_) rfl (by kernel_rfl) (by kernel_rfl) (by kernel_rfl) (fun _ _ _ h => h) (Or.inl ⟨by rfl, ?_⟩) (by assumption) ?_
        rotate_left
        · (intro w hSw; (try dsimp only at hSw); go_simp; try with_reducible rfl)
        try simp only [List.getElem_toArray, List.getElem_cons_succ, List.getElem_cons_zero, Act.put, List.setIfInBounds_toArray, List.set_cons_zero, List.set_cons_succ]
        refine wpAnyH_take (i := 19) (v := ?_) rfl (by kernel_rfl) (by kernel_rfl) (by kernel_rfl) (fun _ _ _ h => h) (Or.inl ⟨by rfl, ?_⟩) (by assumption) ?_
        rotate_left
        · (intro w hSw; (try dsimp only at hSw); go_simp; try with_reducible rfl)
        try simp only [List.getElem_toArray, List.getElem_cons_succ, List.getElem_cons_zero, Act.put, List.setIfInBounds_toArray, List.set_cons_zero, List.set_cons_succ]
        refine wpAnyH_take (i := 20) (v := undef) rfl (by kernel_rfl) (by kernel_rfl) (by kernel_rfl) (fun _ _ _ h => h) (Or.inr ⟨by rfl, rfl⟩) (by assumption) ?_
        try simp only [List.getElem_toArray, List.getElem_cons_succ, List.getElem_cons_zero, Act.put, List.setIfInBounds_toArray, List.set_cons_zero, List.set_cons_succ]
        refine wpAnyH_take (i := 21) (v := undef) rfl (by kernel_rfl) (by kernel_rfl) (by kernel_rfl) (fun _ _ _ h => h) (Or.inr ⟨by rfl, rfl⟩) (by assumption) ?_
        try simp only [List.getElem_toArray, List.getElem_cons_succ, List.getElem_cons_zero, Act.put, List.setIfInBounds_toArray, List.set_cons_zero, List.set_cons_succ]
        refine wpAnyH_take (i := 22) (v := undef) rfl (by kernel_rfl) (by kernel_rfl) (by kernel_rfl) (fun _ _ _ h => h) (Or.inr ⟨by rfl, rfl⟩) (by assumption) ?_
        try simp only [List.getElem_toArray, List.getElem_cons_succ, List.getElem_cons_zero, Act.put, List.setIfInBounds_toArray, List.set_cons_zero, List.set_cons_succ]
        refine wpAnyH_take (i := 23) (v := undef) rfl (by kernel_rfl) (by kernel_rfl) (by kernel_rfl) (fun _ _ _ h => h) (Or.inr ⟨by rfl, rfl⟩) (by assumption) ?_
        try simp only [List.getElem_toArray, List.getElem_cons_succ, List.getElem_cons_zero, Act.put, List.setIfInBounds_toArray, List.set_cons_zero, List.set_cons_succ]
        refine wpAnyH_take (i := 24) (v := undef) rfl (by kernel_rfl) (by kernel_rfl) (by kernel_rfl) (fun _ _ _ h => h) (Or.inr ⟨by rfl, rfl⟩) (by assumption) ?_
        try simp only [List.getElem_toArray, List.getElem_cons_succ, List.getElem_cons_zero, Act.put, List.setIfInBounds_toArray, List.set_cons_zero, List.set_cons_succ]
        refine wpAnyH_take (i := 25) (v := undef) rfl (by kernel_rfl) (by kernel_rfl) (by kernel_rfl) (fun _ _ _ h => h) (Or.inr ⟨by rfl, rfl⟩) (by assumption) ?_
        try simp only [List.getElem_toArray, List.getElem_cons_succ, List.getElem_cons_zero, Act.put, List.setIfInBounds_toArray, List.set_cons_zero, List.set_cons_succ]
        refine wpAnyH_ready (rs := [26]) (by kernel_rfl) (by simp) (AllReadyH.cons rfl (fun K hK => ?_) AllReadyH.nil)
        rw [if_neg (Bool.eq_false_iff.1 (by rfl))]
        refine hK.out _ _ hHeld (fun hHeld => ?_)
        clear hK K
        try simp only [List.getElem_toArray, List.getElem_cons_succ, List.getElem_cons_zero, Act.put, List.setIfInBounds_toArray, List.set_cons_zero, List.set_cons_succ]
        refine wpAnyH_take (i := 27) (v := undef) rfl (by kernel_rfl) (by kernel_rfl) (by kernel_rfl) (fun _ _ _ h => h) (Or.inr ⟨by rfl, rfl⟩) (by assumption) ?_
        try simp only [List.getElem_toArray, List.getElem_cons_succ, List.getElem_cons_zero, Act.put, List.setIfInBounds_toArray, List.set_cons_zero, List.set_cons_succ]
        refine wpAnyH_take (i := 28) (v := ?_) rfl (by kernel_rfl) (by kernel_rfl) (by kernel_rfl) (fun _ _ _ h => h) (Or.inl ⟨by rfl, ?_⟩) (by assumption) ?_
        rotate_left
        · (intro w hSw; (try dsimp only at hSw); go_simp; try with_reducible rfl)
        try simp only [List.getElem_toArray, List.getElem_cons_succ, List.getElem_cons_zero, Act.put, List.setIfInBounds_toArray, List.set_cons_zero, List.set_cons_succ]
        refine wpAnyH_take (i := 29) (v := ?_) rfl (by kernel_rfl) (by kernel_rfl) (by kernel_rfl) (fun _ _ _ h => h) (Or.inl ⟨by rfl, ?_⟩) (by assumption) ?_
        rotate_left
        · (intro w hSw; (try dsimp only at hSw); go_simp; try with_reducible rfl)
        try simp only [List.getElem_toArray, List.getElem_cons_succ, List.getElem_cons_zero, Act.put, List.setIfInBounds_toArray, List.set_cons_zero, List.set_cons_succ]
        refine wpAnyH_done (by kernel_rfl) ?_ _
        go_wp2
        go_roundw
        case rel => exact ⟨k + 1, by omega, by go_num, by first | exact Hb46.out | exact below_drew1 Hb46.out | exact below_drewN Hb46.out _ | exact below_drew1 (below_drewN Hb46.out _) | exact below_drewN (below_drewN Hb46.out _) _ | exact below_drew1 (below_drewN (below_drewN Hb46.out _) _)⟩
        case measure => simp [intOf]; omega
      · have hz2 := hq2.resolve_left hz
        rw [decide_eq_false hz] at Hs1
        rw [decide_eq_true hz2] at Hs2
        clear hq2 hz hz2
        refine wp_region_held_drew (S := (fun w' => w'.cell? ⟨tb, tf + k, none⟩ = some (.slice ta ms.length tc) ∧ w'.cell? ⟨sb, so + k * 2, none⟩ = some (.int .i64 k) ∧ w'.cell? ⟨sb, so + k * 2 + 1, none⟩ = some (.slice sa zs.length sc))) (by kernel_rfl) ?_ (fun hHeld => ?_)
        · (try dsimp only); (first | (refine ⟨?_, ?_, ?_⟩ <;> first | go_keep | assumption) | assumption)
        refine wpAnyH_take (i := 0) (v := ?_) rfl (by kernel_rfl) (by kernel_rfl) (by kernel_rfl) (fun _ _ _ h => h) (Or.inl ⟨by rfl, ?_⟩) (by assumption) ?_
        rotate_left
        · (intro w hSw; (try dsimp only at hSw); go_simp; try with_reducible rfl)
        try simp only [List.getElem_toArray, List.getElem_cons_zero, Act.put, List.setIfInBounds_toArray, List.set_cons_zero, List.set_cons_succ]
        refine wpAnyH_take (i := 1) (v := ?_) rfl (by kernel_rfl) (by kernel_rfl) (by kernel_rfl) (fun _ _ _ h => h) (Or.inl ⟨by rfl, ?_⟩) (by assumption) ?_
        rotate_left
        · (intro w hSw; (try dsimp only at hSw); go_simp; try with_reducible rfl)
        try simp only [List.getElem_toArray, List.getElem_cons_succ, List.getElem_cons_zero, Act.put, List.setIfInBounds_toArray, List.set_cons_zero, List.set_cons_succ]
        refine wpAnyH_take (i := 2) (v := ?_) rfl (by kernel_rfl) (by kernel_rfl) (by kernel_rfl) (fun _ _ _ h => h) (Or.inl ⟨by rfl, ?_⟩) (by assumption) ?_
        rotate_left
        · (intro w hSw; (try dsimp only at hSw); go_simp; try with_reducible rfl)
        try simp only [List.getElem_toArray, List.getElem_cons_succ, List.getElem_cons_zero, Act.put, List.setIfInBounds_toArray, List.set_cons_zero, List.set_cons_succ]
        refine wpAnyH_take (i := 3) (v := ?_) rfl (by kernel_rfl) (by kernel_rfl) (by kernel_rfl) (fun _ _ _ h => h) (Or.inl ⟨by rfl, ?_⟩) (by assumption) ?_
        rotate_left
        · (intro w hSw; (try dsimp only at hSw); go_simp; try with_reducible rfl)
        try simp only [List.getElem_toArray, List.getElem_cons_succ, List.getElem_cons_zero, Act.put, List.setIfInBounds_toArray, List.set_cons_zero, List.set_cons_succ]
        refine wpAnyH_take (i := 4) (v := ?_) rfl (by kernel_rfl) (by kernel_rfl) (by kernel_rfl) (fun _ _ _ h => h) (Or.inl ⟨by rfl, ?_⟩) (by assumption) ?_
        rotate_left
        · (intro w hSw; (try dsimp only at hSw); go_simp; try with_reducible rfl)
        try simp only [List.getElem_toArray, List.getElem_cons_succ, List.getElem_cons_zero, Act.put, List.setIfInBounds_toArray, List.set_cons_zero, List.set_cons_succ]
        refine wpAnyH_take (i := 5) (v := ?_) rfl (by kernel_rfl) (by kernel_rfl) (by kernel_rfl) (fun _ _ _ h => h) (Or.inl ⟨by rfl, ?_⟩) (by assumption) ?_
        rotate_left
        · (intro w hSw; (try dsimp only at hSw); go_simp; try with_reducible rfl)
        try simp only [List.getElem_toArray, List.getElem_cons_succ, List.getElem_cons_zero, Act.put, List.setIfInBounds_toArray, List.set_cons_zero, List.set_cons_succ]
        refine wpAnyH_take (i := 6) (v := ?_) rfl (by kernel_rfl) (by kernel_rfl) (by kernel_rfl) (fun _ _ _ h => h) (Or.inl ⟨by rfl, ?_⟩) (by assumption) ?_
        rotate_left
        · (intro w hSw; (try dsimp only at hSw); go_simp; try with_reducible rfl)
        try simp only [List.getElem_toArray, List.getElem_cons_succ, List.getElem_cons_zero, Act.put, List.setIfInBounds_toArray, List.set_cons_zero, List.set_cons_succ]
        refine wpAnyH_take (i := 7) (v := ?_) rfl (by kernel_rfl) (by kernel_rfl) (by kernel_rfl) (fun _ _ _ h => h) (Or.inl ⟨by rfl, ?_⟩) (by assumption) ?_
        rotate_left
        · (intro w hSw; (try dsimp only at hSw); go_simp; try with_reducible rfl)
        try simp only [List.getElem_toArray, List.getElem_cons_succ, List.getElem_cons_zero, Act.put, List.setIfInBounds_toArray, List.set_cons_zero, List.set_cons_succ]
        refine wpAnyH_take (i := 8) (v := ?_) rfl (by kernel_rfl) (by kernel_rfl) (by kernel_rfl) (fun _ _ _ h => h) (Or.inl ⟨by rfl, ?_⟩) (by assumption) ?_
        rotate_left
        · (intro w hSw; (try dsimp only at hSw); go_simp; try with_reducible rfl)
        try simp only [List.getElem_toArray, List.getElem_cons_succ, List.getElem_cons_zero, Act.put, List.setIfInBounds_toArray, List.set_cons_zero, List.set_cons_succ]
        refine wpAnyH_take (i := 9) (v := ?_) rfl (by kernel_rfl) (by kernel_rfl) (by kernel_rfl) (fun _ _ _ h => h) (Or.inl ⟨by rfl, ?_⟩) (by assumption) ?_
        rotate_left
        · (intro w hSw; (try dsimp only at hSw); go_simp; try with_reducible rfl)
        try simp only [List.getElem_toArray, List.getElem_cons_succ, List.getElem_cons_zero, Act.put, List.setIfInBounds_toArray, List.set_cons_zero, List.set_cons_succ]
        refine wpAnyH_take (i := 10) (v := ?_) rfl (by kernel_rfl) (by kernel_rfl) (by kernel_rfl) (fun _ _ _ h => h) (Or.inl ⟨by rfl, ?_⟩) (by assumption) ?_
        rotate_left
        · (intro w hSw; (try dsimp only at hSw); go_simp; try with_reducible rfl)
        try simp only [List.getElem_toArray, List.getElem_cons_succ, List.getElem_cons_zero, Act.put, List.setIfInBounds_toArray, List.set_cons_zero, List.set_cons_succ]
        refine wpAnyH_take (i := 11) (v := ?_) rfl (by kernel_rfl) (by kernel_rfl) (by kernel_rfl) (fun _ _ _ h => h) (Or.inl ⟨by rfl, ?_⟩) (by assumption) ?_
        rotate_left
        · (intro w hSw; (try dsimp only at hSw); go_simp; try with_reducible rfl)
        try simp only [List.getElem_toArray, List.getElem_cons_succ, List.getElem_cons_zero, Act.put, List.setIfInBounds_toArray, List.set_cons_zero, List.set_cons_succ]
        refine wpAnyH_take (i := 12) (v := ?_) rfl (by kernel_rfl) (by kernel_rfl) (by kernel_rfl) (fun _ _ _ h => h) (Or.inl ⟨by rfl, ?_⟩) (by assumption) ?_
        rotate_left
        · (intro w hSw; (try dsimp only at hSw); go_simp; try with_reducible rfl)
        try simp only [List.getElem_toArray, List.getElem_cons_succ, List.getElem_cons_zero, Act.put, List.setIfInBounds_toArray, List.set_cons_zero, List.set_cons_succ]
        refine wpAnyH_take (i := 13) (v := ?_) rfl (by kernel_rfl) (by kernel_rfl) (by kernel_rfl) (fun _ _ _ h => h) (Or.inl ⟨by rfl, ?_⟩) (by assumption) ?_
        rotate_left
        · (intro w hSw; (try dsimp only at hSw); go_simp; try with_reducible rfl)
        try simp only [List.getElem_toArray, List.getElem_cons_succ, List.getElem_cons_zero, Act.put, List.setIfInBounds_toArray, List.set_cons_zero, List.set_cons_succ]
        refine wpAnyH_take (i := 14) (v := ?_) rfl (by kernel_rfl) (by kernel_rfl) (by kernel_rfl) (fun _ _ _ h => h) (Or.inl ⟨by rfl, ?_⟩) (by assumption) ?_
        rotate_left
        · (intro w hSw; (try dsimp only at hSw); go_simp; try with_reducible rfl)
        try simp only [List.getElem_toArray, List.getElem_cons_succ, List.getElem_cons_zero, Act.put, List.setIfInBounds_toArray, List.set_cons_zero, List.set_cons_succ]
        refine wpAnyH_take (i := 15) (v := ?_) rfl (by kernel_rfl) (by kernel_rfl) (by kernel_rfl) (fun _ _ _ h => h) (Or.inl ⟨by rfl, ?_⟩) (by assumption) ?_
        rotate_left
        · (intro w hSw; (try dsimp only at hSw); go_simp; try with_reducible rfl)
        try simp only [List.getElem_toArray, List.getElem_cons_succ, List.getElem_cons_zero, Act.put, List.setIfInBounds_toArray, List.set_cons_zero, List.set_cons_succ]
        refine wpAnyH_take (i := 16) (v := ?_) rfl (by kernel_rfl) (by kernel_rfl) (by kernel_rfl) (fun _ _ _ h => h) (Or.inl ⟨by rfl, ?_⟩) (by assumption) ?_
        rotate_left
        · (intro w hSw; (try dsimp only at hSw); go_simp; try with_reducible rfl)
        try simp only [List.getElem_toArray, List.getElem_cons_succ, List.getElem_cons_zero, Act.put, List.setIfInBounds_toArray, List.set_cons_zero, List.set_cons_succ]
        refine wpAnyH_ready (rs := [17]) (by kernel_rfl) (by simp) (AllReadyH.cons rfl (fun K hK => ?_) AllReadyH.nil)
        go_simp
        with_reducible refine (Hs1.out _ ?_ ?_).mono ?_
        · exact HmS6.out
        · exact HmT6.out
        rintro e w7 ⟨rfl, nd, rfl⟩
        refine hK.out _ _ ?_ (fun hHeld => ?_)
        · (try dsimp only); (first | (refine ⟨?_, ?_, ?_⟩ <;> first | go_keep | assumption) | assumption)
        clear hK K
        try simp only [List.getElem_toArray, List.getElem_cons_succ, List.getElem_cons_zero, Act.put, List.setIfInBounds_toArray, List.set_cons_zero, List.set_cons_succ]
        refine wpAnyH_take (i := 18) (v := ?_) rfl (by kernel_rfl) (by kernel_rfl) (by kernel_rfl) (fun _ _ _ h => h) (Or.inl ⟨by rfl, ?_⟩) (by assumption) ?_
        rotate_left
        · (intro w hSw; (try dsimp only at hSw); go_simp; try with_reducible rfl)
        try simp only [List.getElem_toArray, List.getElem_cons_succ, List.getElem_cons_zero, Act.put, List.setIfInBounds_toArray, List.set_cons_zero, List.set_cons_succ]
        refine wpAnyH_take (i := 19) (v := ?_) rfl (by kernel_rfl) (by kernel_rfl) (by kernel_rfl) (fun _ _ _ h => h) (Or.inl ⟨by rfl, ?_⟩) (by assumption) ?_
        rotate_left
        · (intro w hSw; (try dsimp only at hSw); go_simp; try with_reducible rfl)
        try simp only [List.getElem_toArray, List.getElem_cons_succ, List.getElem_cons_zero, Act.put, List.setIfInBounds_toArray, List.set_cons_zero, List.set_cons_succ]
        refine wpAnyH_take (i := 20) (v := ?_) rfl (by kernel_rfl) (by kernel_rfl) (by kernel_rfl) (fun _ _ _ h => h) (Or.inl ⟨by rfl, ?_⟩) (by assumption) ?_
        rotate_left
        · (intro w hSw; (try dsimp only at hSw); go_simp; try with_reducible rfl)
        try simp only [List.getElem_toArray, List.getElem_cons_succ, List.getElem_cons_zero, Act.put, List.setIfInBounds_toArray, List.set_cons_zero, List.set_cons_succ]
        refine wpAnyH_take (i := 21) (v := ?_) rfl (by kernel_rfl) (by kernel_rfl) (by kernel_rfl) (fun _ _ _ h => h) (Or.inl ⟨by rfl, ?_⟩) (by assumption) ?_
        rotate_left
        · (intro w hSw; (try dsimp only at hSw); go_simp; try with_reducible rfl)
        try simp only [List.getElem_toArray, List.getElem_cons_succ, List.getElem_cons_zero, Act.put, List.setIfInBounds_toArray, List.set_cons_zero, List.set_cons_succ]
        refine wpAnyH_take (i := 22) (v := ?_) rfl (by kernel_rfl) (by kernel_rfl) (by kernel_rfl) (fun _ _ _ h => h) (Or.inl ⟨by rfl, ?_⟩) (by assumption) ?_
        rotate_left
        · (intro w hSw; (try dsimp only at hSw); go_simp; try with_reducible rfl)
        try simp only [List.getElem_toArray, List.getElem_cons_succ, List.getElem_cons_zero, Act.put, List.setIfInBounds_toArray, List.set_cons_zero, List.set_cons_succ]
        refine wpAnyH_take (i := 23) (v := ?_) rfl (by kernel_rfl) (by kernel_rfl) (by kernel_rfl) (fun _ _ _ h => h) (Or.inl ⟨by rfl, ?_⟩) (by assumption) ?_
        rotate_left
        · (intro w hSw; (try dsimp only at hSw); go_simp; try with_reducible rfl)
        try simp only [List.getElem_toArray, List.getElem_cons_succ, List.getElem_cons_zero, Act.put, List.setIfInBounds_toArray, List.set_cons_zero, List.set_cons_succ]
        refine wpAnyH_take (i := 24) (v := ?_) rfl (by kernel_rfl) (by kernel_rfl) (by kernel_rfl) (fun _ _ _ h => h) (Or.inl ⟨by rfl, ?_⟩) (by assumption) ?_
        rotate_left
        · (intro w hSw; (try dsimp only at hSw); go_simp; try with_reducible rfl)
        try simp only [List.getElem_toArray, List.getElem_cons_succ, List.getElem_cons_zero, Act.put, List.setIfInBounds_toArray, List.set_cons_zero, List.set_cons_succ]
        refine wpAnyH_take (i := 25) (v := ?_) rfl (by kernel_rfl) (by kernel_rfl) (by kernel_rfl) (fun _ _ _ h => h) (Or.inl ⟨by rfl, ?_⟩) (by assumption) ?_
        rotate_left
        · (intro w hSw; (try dsimp only at hSw); go_simp; try with_reducible rfl)
        try simp only [List.getElem_toArray, List.getElem_cons_succ, List.getElem_cons_zero, Act.put, List.setIfInBounds_toArray, List.set_cons_zero, List.set_cons_succ]
        refine wpAnyH_ready (rs := [26]) (by kernel_rfl) (by simp) (AllReadyH.cons rfl (fun K hK => ?_) AllReadyH.nil)
        go_simp
        with_reducible refine (Hs2.out _ ?_ ?_).mono ?_
        · exact HmS6.out
        · exact Hnot.out
        rintro e w7 ⟨rfl, ne, rfl⟩
        refine hK.out _ _ ?_ (fun hHeld => ?_)
        · (try dsimp only); (first | (refine ⟨?_, ?_, ?_⟩ <;> first | go_keep | assumption) | assumption)
        clear hK K
        try simp only [List.getElem_toArray, List.getElem_cons_succ, List.getElem_cons_zero, Act.put, List.setIfInBounds_toArray, List.set_cons_zero, List.set_cons_succ]
        refine wpAnyH_take (i := 27) (v := ?_) rfl (by kernel_rfl) (by kernel_rfl) (by kernel_rfl) (fun _ _ _ h => h) (Or.inl ⟨by rfl, ?_⟩) (by assumption) ?_
        rotate_left
        · (intro w hSw; (try dsimp only at hSw); go_simp; try with_reducible rfl)
        try simp only [List.getElem_toArray, List.getElem_cons_succ, List.getElem_cons_zero, Act.put, List.setIfInBounds_toArray, List.set_cons_zero, List.set_cons_succ]
        refine wpAnyH_take (i := 28) (v := ?_) rfl (by kernel_rfl) (by kernel_rfl) (by kernel_rfl) (fun _ _ _ h => h) (Or.inl ⟨by rfl, ?_⟩) (by assumption) ?_
        rotate_left
        · (intro w hSw; (try dsimp only at hSw); go_simp; try with_reducible rfl)
        try simp only [List.getElem_toArray, List.getElem_cons_succ, List.getElem_cons_zero, Act.put, List.setIfInBounds_toArray, List.set_cons_zero, List.set_cons_succ]
        refine wpAnyH_take (i := 29) (v := ?_) rfl (by kernel_rfl) (by kernel_rfl) (by kernel_rfl) (fun _ _ _ h => h) (Or.inl ⟨by rfl, ?_⟩) (by assumption) ?_
        rotate_left
        · (intro w hSw; (try dsimp only at hSw); go_simp; try with_reducible rfl)
        try simp only [List.getElem_toArray, List.getElem_cons_succ, List.getElem_cons_zero, Act.put, List.setIfInBounds_toArray, List.set_cons_zero, List.set_cons_succ]
        refine wpAnyH_done (by kernel_rfl) ?_ _
        go_wp2
        go_roundw
        case rel => exact ⟨k + 1, by omega, by go_num, by first | exact Hb46.out | exact below_drew1 Hb46.out | exact below_drewN Hb46.out _ | exact below_drew1 (below_drewN Hb46.out _) | exact below_drewN (below_drewN Hb46.out _) _ | exact below_drew1 (below_drewN (below_drewN Hb46.out _) _)⟩
        case measure => simp [intOf]; omega
    · obtain rfl : k = n := Nat.le_antisymm hk (Nat.le_of_not_lt hlt)
      have hS5 := (HS4.out.below (w' := wr) hbr.block).mono hbr.size
      have hB5 : Below w.heap.size w wr := HB4.out.trans (hbr.mono HB4.out.size)
      clear hbr
      go_wp2_with fail
      refine (Hsok.out _ _ _ hS5 (Nat.le_refl _)).mono ?_
      rintro e w6 ⟨rfl, hb6⟩
      have hS6 := (hS5.below (w' := w6) hb6.block).mono hb6.size
      have hB6 : Below w.heap.size w w6 := hB5.trans (hb6.mono hB5.size)
      clear hb6 hS5 hB5
      go_wp2_with fail
      refine (Htab.out _ _ _ hS6 (Nat.le_refl _)).mono ?_
      rintro e w7 ⟨rfl, hb7⟩
      have hB7 : Below w.heap.size w w7 := hB6.trans (hb7.mono hB6.size)
      clear hb7 hS6 hB6
      go_wp2_with fail
      refine (Hwi.out _).mono ?_
      rintro e w8 ⟨v8, rfl, hown, hb8⟩
      have hB8 : Below w.heap.size w w8 := hB7.trans (hb8.mono hB7.size)
      have Hrd8 : Hid (RdInts w8 w8.heap.size v8 (nums (wlp p T))) := RdInts.of_own (zs := nums (wlp p T)) (by rw [nums_length, ← vals_nums]; exact hown)
      obtain ⟨a8, c8, hv8⟩ := own_len hown
      subst hv8
      clear hown hb8 hB7
      go_wp2_with fail
      refine (hasInt (nums (wlp p T)) x _ _ _ Hrd8.out).mono ?_
      rintro e w' ⟨rfl, rfl⟩
      rw [Hhas.out]
      go_wp2
      go_ret
      exact ⟨rfl, hB8⟩

set_option maxRecDepth 100000 in
theorem lifted (os : Os) (started : os.Started) (H : Type) (enc : TypeId × Value → H) :
    ReturnsInHanded {} Try.checked os 3 .any (Rows.fnMadeStorySpec.pre6 enc Try.prog Try.f3 Rows.fnMadeStoryRow.domain false) (Rows.fnMadeStorySpec.post enc Try.prog Try.f3 false true false false) := by
  refine returnsInHanded_of_change (C := Try.checked) Try.own started (by kernel_rfl) Try.func3
    (ChangeSpec.witness6 (enc := enc) (C := Try.checked) false ⟨#[], #[.slice none 0 0], []⟩ 8 (by kernel_rfl) (by kernel_rfl) (by kernel_rfl) (by kernel_rfl)) ?_
  intro W base args ds gs before hval0 hW hcnd _
  have hval : ∀ (j : Nat) t v, Try.f3.params[j]? = some t → args[j]? = some v → Value.okWide Try.prog W .any base t v := hval0
  have hW' := hW
  obtain ⟨p, q, hA0, hV, rfl, hfz, hnd⟩ := hW
  have hA : DataW.TrodAll enc Try.prog W 0 (fun _ => true) true Try.f3.params.toList args.toList ds p := hA0
  rw [Try.params3] at hA hval
  obtain ⟨v0, vs0, d0, ds0, p0, q0, hargs, rfl, rfl, h0, r0⟩ := trodAll_cons hA
  obtain ⟨rfl, rfl, rfl⟩ := trodAll_nil r0
  obtain rfl : args = #[v0] := by cases args; simp_all
  obtain ⟨rfl, rfl⟩ := trodVars_none hV
  obtain ⟨a0, len0, cap0, rfl⟩ := okWide_slice Try.underlying22 (hval 0 22 v0 rfl rfl)
  have k0 := h0
  have lt0 : ∀ x ∈ p0, x.block < W.heap.size := by obtain ⟨m, hm⟩ := k0; exact DataW.trod_lt m _ _ _ hm
  obtain ⟨z0, w0⟩ : ∃ zs, IsRow .u8 W a0 len0 cap0 zs := by
    obtain ⟨fuel, hf⟩ := h0
    rcases open_ints Try.underlying22 Try.underlying5 (by kernel_rfl) hf with ⟨hcs, _⟩ | ⟨x, l, c, zs, hcs, _, hl, hm, hz, _, hcell, hwz⟩
    · simp [Value.cells] at hcs
      obtain ⟨rfl, rfl, rfl⟩ := hcs
      exact ⟨[], .inl ⟨rfl, rfl, rfl, rfl⟩⟩
    · simp [Value.cells] at hcs
      obtain ⟨rfl, rfl, rfl⟩ := hcs
      exact ⟨zs, .inr ⟨_, rfl, hl, hm, by simpa using hz, hcell, hwz⟩⟩
  clear hA0 hval0
  refine (walk _ _ W (RdBytes.of_row w0)).mono fun e W' ⟨he, bel⟩ => ?_
  subst he
  exact ⟨_, rfl, _, _, _, [], _, [], hW', trodAll_mk1 (shut_bool Try.underlying4 _), (trodAll_cons_mk (Below.trod Try.laidOut (by kernel_rfl) (of_decide_eq_true (by kernel_rfl)) k0 bel lt0) trodAll_mk0), rfl, bel.frame _, fun h => by cases h⟩

theorem closed : joinedFacts Try.pinned.checked.prog 3 Try.f3 Rows.fnMadeStorySpec Rows.fnMadeStoryRow = true := by
  unfold joinedFacts
  exact (and_tt (and_tt (and_tt (and_tt (and_tt (and_tt (and_tt (and_tt (and_tt (and_tt (and_tt (and_tt (and_tt (and_tt (and_tt (and_tt (and_tt (and_tt (and_tt (and_tt (and_tt (and_tt (and_tt (and_tt (and_tt (and_tt (and_tt (and_tt (and_tt (and_tt (and_tt (by kernel_rfl) (by kernel_rfl)) (by kernel_rfl)) (by kernel_rfl)) (by kernel_rfl)) (by kernel_rfl)) (by kernel_rfl)) (by kernel_rfl)) (by kernel_rfl)) (by kernel_rfl)) (by kernel_rfl)) (by kernel_rfl)) (by kernel_rfl)) (by kernel_rfl)) (by kernel_rfl)) (by kernel_rfl)) (by kernel_rfl)) (by kernel_rfl)) (by kernel_rfl)) (by kernel_rfl)) (by kernel_rfl)) (by kernel_rfl)) (by kernel_rfl)) (by kernel_rfl)) (by kernel_rfl)) Try.mayEnter0) (lifted_tt Try.lifts0 rfl)) (make_tt Try.make0 rfl)) (by kernel_rfl)) (by kernel_rfl)) (by kernel_rfl)) (by kernel_rfl))
theorem over : Rows.fnMadeStoryRow.holds Try.pinned (OpenSpec.ofChange Rows.fnMadeStorySpec) :=
  OpenClaim.holds_of_wide 3 Try.f3 rfl rfl rfl rfl rfl rfl rfl ⟨rfl, rfl, rfl, rfl, rfl⟩ rfl rfl rfl rfl rfl (by kernel_rfl) Try.func3 closed
    (of_decide_eq_true (by kernel_rfl)) (by unfold Func.isWrapper; first | (rw [if_pos (by decide +kernel)]; kernel_rfl) | (rw [if_neg (by decide +kernel)]; exact ⟨rfl, rfl⟩))
    (fun os started H enc _ => lifted os started H enc)

theorem proved : Rows.FnMadeStorySaid := over
end Go.Proofs.Ythiabicleedleaa.fnMadeStory


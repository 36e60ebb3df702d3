/- Contracts of what the exact laws do with stories that came in. -/
import Derived.Test.YtobbbmcppmohoaaClaimF
import Derived.Test.YtobbbmcppmohoaaDrawP
namespace Go.Proofs.Ytobbbmcppmohoaa
open Go.RowKit Go.Joins
set_option maxHeartbeats 400000 in
theorem szMarkS_at (ao : Option Addr) (n cap : Nat) (left : Int) (hn : (n : Int) ≤ 9223372036854775807) (h0 : 0 ≤ left) (h1 : left ≤ 1048576) (w : World) :
    Calls Try.prog 79 #[.slice ao n cap, .int .i64 left] w fun e w' => (∃ r : Int, e = .returned (.int .i64 r) ∧ (r < 0 ∨ (0 ≤ r ∧ r ≤ left ∧ n ≤ 1048576))) ∧ w = w' := by
  by_cases h : (n : Int) ≤ left
  · have h' : ¬ left - (n : Int) < 0 := by omega
    go_enter Try.func79, Try.ntmps79
    go_wp2
    go_ret
    exact ⟨⟨_, rfl, .inr ⟨by omega, by omega, by omega⟩⟩, rfl⟩
  · have h' : left - (n : Int) < 0 := by omega
    go_enter Try.func79, Try.ntmps79
    go_wp2
    go_ret
    exact ⟨⟨_, rfl, .inl (by omega)⟩, rfl⟩
set_option maxHeartbeats 1000000 in
theorem szClaim_at (k : Int) (ao : Option Addr) (n cap : Nat) (left : Int) (hn : (n : Int) ≤ 9223372036854775807) (h0 : 0 ≤ left) (h1 : left ≤ 1048576) (w : World) :
    Calls Try.prog 48 #[.agg #[.int .i64 k, .slice ao n cap], .int .i64 left] w fun e w' => (∃ r : Int, e = .returned (.int .i64 r) ∧ (r < 0 ∨ (0 ≤ r ∧ r ≤ left ∧ n ≤ 1048576))) ∧ Below w.heap.size w w' := by
  have hbw : ∀ o, Below w.heap.size w (w.alloc o) := fun o => (Below.refl _ _).alloc (Nat.le_refl _) o
  go_enter Try.func48, Try.ntmps48
  go_wp2_with fail
  refine (szMarkS_at ao n cap left hn h0 h1 _).mono ?_
  rintro e w' ⟨⟨r, rfl, hr⟩, rfl⟩
  by_cases hneg : r < 0
  · go_wp2
    go_ret
    exact ⟨⟨_, rfl, .inl (by omega)⟩, hbw _⟩
  · have hr' : 0 ≤ r ∧ r ≤ left ∧ n ≤ 1048576 := by rcases hr with h | h; omega; exact h
    have Hr := Lib.hid hr'
    clear hr hr'
    go_wp2
    go_ret
    exact ⟨⟨_, rfl, .inr Hr.out⟩, hbw _⟩
set_option maxRecDepth 100000 in
set_option maxHeartbeats 1000000 in
theorem szClaimS (qs : List QC) (B : Nat) (v : Value) (w : World) (hr : RdStory w B v qs) (hB : B ≤ w.heap.size) :
    Calls Try.prog 51 #[v, .int .i64 1048576] w fun e w' => (∃ r : Int, e = .returned (.int .i64 r) ∧ (r < 0 ∨ (0 ≤ r ∧ qs.length ≤ 1048576 ∧ ∀ j, j < qs.length → (qs.getD j qc0).2.2.length ≤ 1048576))) ∧ Below w.heap.size w w' := by
  have Hx := Lib.hid hr
  obtain ⟨ao, cap, rfl, hal, ham, _, hac0⟩ := hr
  have hac := Lib.hid hac0; clear hac0
  unfold maxLen at ham
  by_cases hlen : (qs.length : Int) ≤ 1048576
  case neg =>
    have h' : 1048576 - (qs.length : Int) < 0 := by omega
    go_enter Try.func51, Try.ntmps51
    go_wp2
    go_ret
    exact ⟨⟨_, rfl, .inl (by omega)⟩, Below.refl _ _⟩
  have h' : ¬ 1048576 - (qs.length : Int) < 0 := by omega
  obtain ⟨wo, rfl⟩ : ∃ wo : World, wo = w := ⟨_, rfl⟩
  go_enter Try.func51, Try.ntmps51
  go_wp2
  go_loopw [1, 4, 5] (fun l _ i wr => ∃ (j : Nat) (left : Int), j ≤ qs.length ∧ i = .int .i64 j ∧ l = .int .i64 left ∧ 0 ≤ left ∧ left ≤ 1048576 ∧ Hid (∀ k, k < j → (qs.getD k qc0).2.2.length ≤ 1048576) ∧ Below wo.heap.size wo wr) (fun _ _ i _ => qs.length - (intOf i).toNat)
  case atStart => exact ⟨0, _, Nat.zero_le _, rfl, rfl, by omega, by omega, fun k hk => by omega, Below.refl _ _⟩
  case round =>
    obtain ⟨j, left, hj, rfl, rfl, hl0, hl1, hall, hbel⟩ := hrel
    by_cases hlt : j < qs.length
    · obtain ⟨b1, o1, rfl, hb1, hc1, hc1'⟩ := hac.out j hlt
      rw [← hbel.cell (p := ⟨b1, _, none⟩) (show b1 < _ by omega)] at hc1 hc1'
      have hm := (Hx.out.get hlt).1
      obtain ⟨uo, uc, hu, hul, hum⟩ : ∃ uo uc, (qs.getD j qc0).1 = .slice uo (qs.getD j qc0).2.2.length uc ∧ (qs.getD j qc0).2.2.length ≤ uc ∧ uc ≤ maxLen := by
        obtain ⟨uo, uc, h1, h2, h3, _⟩ := hm
        exact ⟨uo, uc, h1, h2, h3⟩
      unfold maxLen at hum
      obtain ⟨m, hme⟩ : ∃ m, m = (qs.getD j qc0).2.2.length := ⟨_, rfl⟩
      rw [← hme] at hu hul
      rw [hu] at hc1'
      have Hme := Lib.hid hme
      generalize (qs.getD j qc0).2.1 = k at *
      have Hbel := Lib.hid hbel
      clear hbel hm hu hme
      have hmn : (m : Int) ≤ 9223372036854775807 := by omega
      go_wp2_with fail
      refine (szClaim_at k uo m uc left hmn hl0 hl1 _).mono ?_
      rintro e w2 ⟨⟨r, rfl, hr⟩, hb2⟩
      have Hb2 := Lib.hid (Hbel.out.trans (hb2.mono Hbel.out.size)); clear hb2
      by_cases hneg : r < 0
      · go_wp2
        go_ret
        exact ⟨⟨_, rfl, .inl (by omega)⟩, Hb2.out⟩
      · have hr' : 0 ≤ r ∧ r ≤ left ∧ m ≤ 1048576 := by rcases hr with h | h; omega; exact h
        have Hall : Hid (∀ k, k < j + 1 → (qs.getD k qc0).2.2.length ≤ 1048576) := fun k hk => by
          by_cases e : k < j
          · exact hall.out k e
          · obtain rfl : k = j := by omega
            rw [← Hme.out]; exact hr'.2.2
        obtain ⟨hr0, hr1, _⟩ := hr'
        have Hlr := Lib.hid (show 0 ≤ r ∧ r ≤ 1048576 from ⟨hr0, by omega⟩)
        clear hr hl0 hl1 hr1 hall
        go_wp2
        go_roundw
        case rel => exact ⟨j + 1, r, by omega, by go_num, rfl, Hlr.out.1, Hlr.out.2, Hall, Hb2.out⟩
        case measure => simp [intOf]; omega
    · obtain rfl : j = qs.length := by omega
      have Hbel := Lib.hid hbel; clear hbel
      have Hlr := Lib.hid hl0
      clear hl0 hl1
      go_wp2
      go_ret
      exact ⟨⟨_, rfl, .inr ⟨Hlr.out, by omega, hall.out⟩⟩, Hbel.out⟩
theorem ccells_set (A R : List QC) (q q' : QC) (k : Nat) (hk : A.length = k) :
    ((ccells (A ++ q :: R)).set (k * 2) (.int .i64 q'.2.1)).set (k * 2 + 1) q'.1 = ccells (A ++ q' :: R) := by
  subst hk
  have hl := ccells_length A
  rw [ccells_append, ccells_append, List.set_append_right _ _ (by omega), List.set_append_right _ _ (by omega), hl]
  have e1 : A.length * 2 - A.length * 2 = 0 := by omega
  have e2 : A.length * 2 + 1 - A.length * 2 = 1 := by omega
  rw [e1, e2]
  rfl
theorem ccells_zero (n : Nat) : (madeCells #[Value.int .i64 0, Value.slice none 0 0] (n * 2)).toList = ccells (List.replicate n qc0) := by
  refine List.ext_getElem (by rw [ccells_length]; simp [madeCells]) fun i h1 h2 => ?_
  have hl : i < n * 2 := by rw [ccells_length] at h2; simpa using h2
  obtain ⟨g1, g2⟩ := ccells_get (List.replicate n qc0) (i / 2) (by simp; omega)
  have hq : (List.replicate n qc0).getD (i / 2) qc0 = qc0 := by
    rw [List.getD_eq_getElem?_getD, List.getElem?_replicate]
    split <;> rfl
  rw [hq] at g1 g2
  have hm : i % 2 = 0 ∨ i % 2 = 1 := by omega
  rcases hm with hm | hm
  · have ei : i / 2 * 2 = i := by omega
    rw [ei] at g1
    have := (List.getElem?_eq_some_iff.1 g1).2
    rw [this]
    simp [madeCells, hm, qc0]
  · have ei : i / 2 * 2 + 1 = i := by omega
    rw [ei] at g2
    have := (List.getElem?_eq_some_iff.1 g2).2
    rw [this]
    simp [madeCells, hm, qc0]
theorem rep_succ (n k : Nat) (h : k < n) : List.replicate (n - k) qc0 = qc0 :: List.replicate (n - (k + 1)) qc0 := by
  rw [show n - k = (n - (k + 1)) + 1 from by omega]; rfl
/-- what some claims say lies in blocks of which no two are the same -/
def Apart (us : List QC) : Prop := us.Pairwise fun a b => a.1.ownBlock = none ∨ a.1.ownBlock ≠ b.1.ownBlock
theorem Apart.snoc {us : List QC} {q : QC} {s : Nat} (h : Apart us) (hl : ∀ r ∈ us, ∀ k, r.1.ownBlock = some k → k < s) (hq : ∀ k, q.1.ownBlock = some k → s ≤ k) : Apart (us ++ [q]) := by
  refine List.pairwise_append.2 ⟨h, by simp, fun a ha b hb => ?_⟩
  simp at hb; subst hb
  exact own_apart (hl a ha) hq
set_option maxRecDepth 100000 in
set_option maxHeartbeats 2000000 in
theorem toClaimSA (qs : List QC) (hsz : qs.length ≤ 1048576) (hms : ∀ j, j < qs.length → (qs.getD j qc0).2.2.length ≤ 1048576) (B : Nat) (v : Value) (w : World) (hr : RdStory w B v qs) (hB : B ≤ w.heap.size) :
    Calls Try.prog 52 #[v] w fun e w' => ∃ u us, e = .returned u ∧ us.map (·.2) = qs.map (·.2) ∧ StoryIn w' w.heap.size w.heap.size u us ∧ Apart us ∧ Below w.heap.size w w' := by
  have Hx := Lib.hid hr
  have Hms := Lib.hid hms
  obtain ⟨ao, acap, rfl, hal, ham, _, hac0⟩ := hr
  obtain ⟨ic, hci, hcz0, hcz1, hcz2⟩ := info_parts Try.infoC
  have hac := Lib.hid hac0; clear hac0 hms
  unfold maxLen at ham
  generalize hn : qs.length = n at *
  have Hn := Lib.hid hn; clear hn
  go_enter Try.func52, Try.ntmps52
  go_wp2_with (at_make; refine wpList_make_full _ rfl _ _ 41 rfl w.heap.size TC ic (.agg #[.int .i64 0, .slice none 0 0]) 2 Try.underlying41 hci hcz0 hcz1 _ _ _ _ n rfl rfl rfl rfl ?b1 ?b2 ?b3 ?_)
  case b1 => rw [hcz2]; omega
  case b2 => unfold maxLen; omega
  case b3 => exact Nat.le_refl _
  clear hci hcz0 hcz1 hcz2
  intro w1 hown hgrow
  have hb1 : Below w.heap.size w w1 := (Below.refl _ _).grown hgrow (Nat.le_refl _) (fun k hk => by cases hk)
  clear hgrow
  generalize hg : w.heap.size = g at *
  have Hg := Lib.hid hg; clear hg
  have hown0 : w1.ownsRow g TC 2 (.slice (some ⟨g, 0, none⟩) n n) n (ccells (([] : List QC) ++ List.replicate (n - 0) qc0)) := by
    rw [List.nil_append, Nat.sub_zero, ← ccells_zero]
    simpa [Value.cells] using hown
  clear hown
  go_wp2
  go_loopw [4] (fun i wr => ∃ (k : Nat) (us : List QC), k ≤ n ∧ i = .int .i64 k ∧ us.length = k ∧ us.map (·.2) = (qs.take k).map (·.2) ∧ wr.ownsRow g TC 2 (.slice (some ⟨g, 0, none⟩) n n) n (ccells (us ++ List.replicate (n - k) qc0)) ∧ (∀ q ∈ us, wr.ownsRow g TM 2 q.1 q.2.2.length (mcells q.2.2) ∧ I64s q.2.2 ∧ I64 q.2.1) ∧ Apart us ∧ Below g w wr) (fun i _ => n - (intOf i).toNat)
  case atStart => exact ⟨0, [], Nat.zero_le _, rfl, rfl, by simp, hown0, fun q hq => by simp at hq, List.Pairwise.nil, hb1⟩
  case round =>
    clear hown0
    obtain ⟨k, us, hk, rfl, hul, hum, hown, hus, hap0, hgr⟩ := hrel
    by_cases hlt : k < n
    · obtain ⟨b1, o1, rfl, hbB, hc1, hc2⟩ := hac.out k hlt
      rw [← hgr.cell (p := ⟨b1, _, none⟩) (show b1 < _ by omega)] at hc1 hc2
      obtain ⟨hmk, hik⟩ := Hx.out.get (j := k) (by have := Hn.out; omega)
      have hmk' := hmk.below (w' := wr) (fun q hq => hgr.block q (by omega))
      have hlen := Hms.out k hlt
      have hsucc : (qs.take (k + 1)).map (·.2) = (qs.take k).map (·.2) ++ [(qs.getD k qc0).2] := by
        have e : qs.getD k qc0 = qs[k]'(by have := Hn.out; omega) := by simp [List.getD, show k < qs.length by have := Hn.out; omega]
        rw [List.take_succ_eq_append_getElem (by have := Hn.out; omega), List.map_append, e]
        rfl
      have hI : I64s (qs.getD k qc0).2.2 := by
        obtain ⟨_, _, _, _, _, h, _⟩ := hmk
        exact h
      rw [rep_succ n k hlt] at hown
      generalize qs.getD k qc0 = z at *
      obtain ⟨u, c⟩ := z
      obtain ⟨zk, zm⟩ := c
      dsimp only at hc1 hc2 hmk' hlen hik hI
      have Hsucc : Hid ((qs.take (k + 1)).map (·.2) = (qs.take k).map (·.2) ++ [(zk, zm)]) := hsucc
      have Hm := Lib.hid hmk'
      have hgw : g < wr.heap.size := (hown.lt g rfl).2
      have hBr : B ≤ wr.heap.size := by omega
      clear hmk hmk' hsucc
      go_wp2_with fail
      refine (toClaim zk zm hlen B u _ Hm.out hBr).mono ?_
      rintro e w2 ⟨v2, rfl, hownv, hb2⟩
      have Hap := Lib.hid (hap0.snoc (q := (v2, (zk, zm))) (s := wr.heap.size) (fun r hr k hk => ((hus r hr).1.lt k hk).2) (fun k hk => (hownv.lt k hk).1))
      obtain ⟨vo, vc, hvf⟩ := own_len hownv
      subst hvf
      clear hap0
      have hown2 := own_below hown hb2
      have hgr2 : Below g w w2 := hgr.trans (hb2.mono (by omega))
      have hus2 : ∀ q ∈ us, w2.ownsRow g TM 2 q.1 q.2.2.length (mcells q.2.2) ∧ I64s q.2.2 ∧ I64 q.2.1 := fun q hq => ⟨own_below (hus q hq).1 hb2, (hus q hq).2⟩
      have hownv2 : w2.ownsRow g TM 2 (.slice vo zm.length vc) zm.length (mcells zm) := own_mono hownv (by omega)
      have hfz := hown2.frozenAt
      have hl2 : (ccells (us ++ qc0 :: List.replicate (n - (k + 1)) qc0)).length = n * 2 := by rw [ccells_length]; simp; omega
      obtain ⟨u1, hu1⟩ : ∃ u, w2.cell? ⟨g, k * 2, none⟩ = some u := ⟨_, by rw [hown2.cellAt _ (by omega)]; exact List.getElem?_eq_getElem (by omega)⟩
      obtain ⟨u2, hu2⟩ : ∃ u, w2.cell? ⟨g, k * 2 + 1, none⟩ = some u := ⟨_, by rw [hown2.cellAt _ (by omega)]; exact List.getElem?_eq_getElem (by omega)⟩
      have hf1 := hfz (k * 2)
      have hf2 := hfz (k * 2 + 1)
      clear hfz
      have hst1 := hown2.stored (k * 2) (.int .i64 zk)
      have hst2 := hst1.1.stored (k * 2 + 1) (.slice vo zm.length vc)
      have hset := ccells_set us (List.replicate (n - (k + 1)) qc0) qc0 (.slice vo zm.length vc, (zk, zm)) k hul
      have hst3 := hst2.1
      rw [hset] at hst3
      have hG : w2.grownBy ((w2.setCell ⟨g, k * 2, none⟩ (.int .i64 zk)).setCell ⟨g, k * 2 + 1, none⟩ (.slice vo zm.length vc)) (some g) := grown_trans (by simpa [Value.ownBlock] using hst1.2) (by simpa [Value.ownBlock] using hst2.2)
      have hap : ∀ {x : Value} {ms : List (Int × Int)}, w2.ownsRow g TM 2 x ms.length (mcells ms) → x.ownBlock = none ∨ x.ownBlock ≠ some g := fun h => by
        have := own_ne h hown2 TM_TC
        simpa [Value.ownBlock] using this
      have hus3 : ∀ q ∈ us ++ [(.slice vo zm.length vc, (zk, zm))], ((w2.setCell ⟨g, k * 2, none⟩ (.int .i64 zk)).setCell ⟨g, k * 2 + 1, none⟩ (.slice vo zm.length vc)).ownsRow g TM 2 q.1 q.2.2.length (mcells q.2.2) ∧ I64s q.2.2 ∧ I64 q.2.1 := by
        intro q hq
        rcases List.mem_append.1 hq with hq | hq
        · exact ⟨(hus2 q hq).1.kept hG (hap (hus2 q hq).1), (hus2 q hq).2⟩
        · simp at hq; subst hq
          exact ⟨hownv2.kept hG (hap hownv2), hI, hik⟩
      have Hst := Lib.hid (show ((w2.setCell ⟨g, k * 2, none⟩ (.int .i64 zk)).setCell ⟨g, k * 2 + 1, none⟩ (.slice vo zm.length vc)).ownsRow g TC 2 (.slice (some ⟨g, 0, none⟩) n n) n (ccells ((us ++ [(.slice vo zm.length vc, (zk, zm))]) ++ List.replicate (n - (k + 1)) qc0)) by rw [List.append_assoc]; exact hst3)
      have Hus := Lib.hid hus3
      have Hgr : Hid (Below g w ((w2.setCell ⟨g, k * 2, none⟩ (.int .i64 zk)).setCell ⟨g, k * 2 + 1, none⟩ (.slice vo zm.length vc))) := (hgr2.setCell (Nat.le_refl _) _).setCell (Nat.le_refl _) _
      have Hum := Lib.hid hum
      clear hst1 hst2 hst3 hown hown2 hgr hgr2 hb2 hl2 hset hG hap hus hus2 hus3 hownv hownv2 hum hI hik
      go_wp2
      go_roundw
      case rel => exact ⟨k + 1, _, by omega, by go_num, by simp [hul], by rw [List.map_append, Hum.out, Hsucc.out]; rfl, Hst.out, Hus.out, Hap.out, Hgr.out⟩
      case measure => simp [intOf]; omega
    · obtain rfl : k = n := by omega
      have hf : StoryIn wr g g (.slice (some ⟨g, 0, none⟩) k k) us := ⟨by
        rw [Nat.sub_self, List.replicate_zero, List.append_nil] at hown
        rw [hul]; exact hown, hus⟩
      have hum' : us.map (·.2) = qs.map (·.2) := by
        rw [hum, List.take_of_length_le (by rw [Hn.out]; exact Nat.le_refl _)]
      have Hf := Lib.hid hf
      have Hum := Lib.hid hum'
      have Hap := Lib.hid hap0
      clear hown hus hf hum hum' hap0
      go_wp2
      go_ret
      have := Hg.out
      subst this
      exact ⟨_, rfl, us, Hum.out, Hf.out, Hap.out, hgr⟩
theorem toClaimS (qs : List QC) (hsz : qs.length ≤ 1048576) (hms : ∀ j, j < qs.length → (qs.getD j qc0).2.2.length ≤ 1048576) (B : Nat) (v : Value) (w : World) (hr : RdStory w B v qs) (hB : B ≤ w.heap.size) :
    Calls Try.prog 52 #[v] w fun e w' => ∃ u us, e = .returned u ∧ us.map (·.2) = qs.map (·.2) ∧ StoryIn w' w.heap.size w.heap.size u us ∧ Below w.heap.size w w' :=
  (toClaimSA qs hsz hms B v w hr hB).mono (by rintro e w' ⟨u, us, h1, h2, h3, _, h4⟩; exact ⟨u, us, h1, h2, h3, h4⟩)
end Go.Proofs.Ytobbbmcppmohoaa

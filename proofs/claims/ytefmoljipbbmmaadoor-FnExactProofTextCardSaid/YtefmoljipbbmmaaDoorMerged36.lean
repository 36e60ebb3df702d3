/- Texts of a proof, merged: ClaimG, OneG, Kept, FrameC, FrameT. -/
import Derived.Test.YtefmoljipbbmmaaDoorMerged35
import Derived.Test.YtefmoljipbbmmaaDoorMerged6
import Derived.Test.YtefmoljipbbmmaaDoorMerged11
import Derived.Test.YtefmoljipbbmmaaDoorMerged0
import Derived.Test.YtefmoljipbbmmaaDoorMerged7
import Derived.Lib.SmallJoins
import Derived.Test.YtefmoljipbbmmaaDoorMerged13
/- Contracts of what the exact laws do with stories that came in. -/
namespace Go.Proofs.YtefmoljipbbmmaaDoor
open Go.RowKit Go.Joins
set_option maxHeartbeats 400000 in
theorem szMarkS_at (ao : Option Addr) (n cap : Nat) (left : Int) (hn : (n : Int) ≤ 9223372036854775807) (h0 : 0 ≤ left) (h1 : left ≤ 1048576) (w : World) :
    Calls Tryd.prog 6 #[.slice ao n cap, .int .i64 left] w fun e w' => (∃ r : Int, e = .returned (.int .i64 r) ∧ (r < 0 ∨ (0 ≤ r ∧ r ≤ left ∧ n ≤ 1048576))) ∧ w = w' := by
  by_cases h : (n : Int) ≤ left
  · have h' : ¬ left - (n : Int) < 0 := by omega
    go_enter Tryd.func6, Tryd.ntmps6
    go_wp2
    go_ret
    exact ⟨⟨_, rfl, .inr ⟨by omega, by omega, by omega⟩⟩, rfl⟩
  · have h' : left - (n : Int) < 0 := by omega
    go_enter Tryd.func6, Tryd.ntmps6
    go_wp2
    go_ret
    exact ⟨⟨_, rfl, .inl (by omega)⟩, rfl⟩
set_option maxHeartbeats 1000000 in
theorem szClaim_at (k : Int) (ao : Option Addr) (n cap : Nat) (left : Int) (hn : (n : Int) ≤ 9223372036854775807) (h0 : 0 ≤ left) (h1 : left ≤ 1048576) (w : World) :
    Calls Tryd.prog 22 #[.agg #[.int .i64 k, .slice ao n cap], .int .i64 left] w fun e w' => (∃ r : Int, e = .returned (.int .i64 r) ∧ (r < 0 ∨ (0 ≤ r ∧ r ≤ left ∧ n ≤ 1048576))) ∧ Below w.heap.size w w' := by
  have hbw : ∀ o, Below w.heap.size w (w.alloc o) := fun o => (Below.refl _ _).alloc (Nat.le_refl _) o
  go_enter Tryd.func22, Tryd.ntmps22
  go_wp2_with fail
  refine (szMarkS_at ao n cap left hn h0 h1 _).mono ?_
  rintro e w' ⟨⟨r, rfl, hr⟩, rfl⟩
  by_cases hneg : r < 0
  · go_wp2
    go_ret
    exact ⟨⟨_, rfl, .inl (by omega)⟩, hbw _⟩
  · have hr' : 0 ≤ r ∧ r ≤ left ∧ n ≤ 1048576 := by rcases hr with h | h; omega; exact h
    have Hr := Lib.hid hr'
    clear hr hr'
    go_wp2
    go_ret
    exact ⟨⟨_, rfl, .inr Hr.out⟩, hbw _⟩
set_option maxRecDepth 100000 in
set_option maxHeartbeats 1000000 in
theorem szClaimSB (qs : List QC) (B : Nat) (v : Value) (w : World) (hr : RdStory w B v qs) (hB : B ≤ w.heap.size) :
    Calls Tryd.prog 5 #[v, .int .i64 1048576] w fun e w' => (∃ r : Int, e = .returned (.int .i64 r) ∧ (r < 0 ∨ ((0 ≤ r ∧ r ≤ 1048576) ∧ qs.length ≤ 1048576 ∧ ∀ j, j < qs.length → (qs.getD j qc0).2.2.length ≤ 1048576))) ∧ Below w.heap.size w w' := by
  have Hx := Lib.hid hr
  obtain ⟨ao, cap, rfl, hal, ham, _, hac0⟩ := hr
  have hac := Lib.hid hac0; clear hac0
  unfold maxLen at ham
  by_cases hlen : (qs.length : Int) ≤ 1048576
  case neg =>
    have h' : 1048576 - (qs.length : Int) < 0 := by omega
    go_enter Tryd.func5, Tryd.ntmps5
    go_wp2
    go_ret
    exact ⟨⟨_, rfl, .inl (by omega)⟩, Below.refl _ _⟩
  have h' : ¬ 1048576 - (qs.length : Int) < 0 := by omega
  obtain ⟨wo, rfl⟩ : ∃ wo : World, wo = w := ⟨_, rfl⟩
  go_enter Tryd.func5, Tryd.ntmps5
  go_wp2
  go_loopw [1, 4, 5] (fun l _ i wr => ∃ (j : Nat) (left : Int), j ≤ qs.length ∧ i = .int .i64 j ∧ l = .int .i64 left ∧ 0 ≤ left ∧ left ≤ 1048576 ∧ Hid (∀ k, k < j → (qs.getD k qc0).2.2.length ≤ 1048576) ∧ Below wo.heap.size wo wr) (fun _ _ i _ => qs.length - (intOf i).toNat)
  case atStart => exact ⟨0, _, Nat.zero_le _, rfl, rfl, by omega, by omega, fun k hk => by omega, Below.refl _ _⟩
  case round =>
    obtain ⟨j, left, hj, rfl, rfl, hl0, hl1, hall, hbel⟩ := hrel
    by_cases hlt : j < qs.length
    · obtain ⟨b1, o1, rfl, hb1, hc1, hc1'⟩ := hac.out j hlt
      rw [← hbel.cell (p := ⟨b1, _, none⟩) (show b1 < _ by omega)] at hc1 hc1'
      have hm := (Hx.out.get hlt).1
      obtain ⟨uo, uc, hu, hul, hum⟩ : ∃ uo uc, (qs.getD j qc0).1 = .slice uo (qs.getD j qc0).2.2.length uc ∧ (qs.getD j qc0).2.2.length ≤ uc ∧ uc ≤ maxLen := by
        obtain ⟨uo, uc, h1, h2, h3, _⟩ := hm
        exact ⟨uo, uc, h1, h2, h3⟩
      unfold maxLen at hum
      obtain ⟨m, hme⟩ : ∃ m, m = (qs.getD j qc0).2.2.length := ⟨_, rfl⟩
      rw [← hme] at hu hul
      rw [hu] at hc1'
      have Hme := Lib.hid hme
      generalize (qs.getD j qc0).2.1 = k at *
      have Hbel := Lib.hid hbel
      clear hbel hm hu hme
      have hmn : (m : Int) ≤ 9223372036854775807 := by omega
      go_wp2_with fail
      refine (szClaim_at k uo m uc left hmn hl0 hl1 _).mono ?_
      rintro e w2 ⟨⟨r, rfl, hr⟩, hb2⟩
      have Hb2 := Lib.hid (Hbel.out.trans (hb2.mono Hbel.out.size)); clear hb2
      by_cases hneg : r < 0
      · go_wp2
        go_ret
        exact ⟨⟨_, rfl, .inl (by omega)⟩, Hb2.out⟩
      · have hr' : 0 ≤ r ∧ r ≤ left ∧ m ≤ 1048576 := by rcases hr with h | h; omega; exact h
        have Hall : Hid (∀ k, k < j + 1 → (qs.getD k qc0).2.2.length ≤ 1048576) := fun k hk => by
          by_cases e : k < j
          · exact hall.out k e
          · obtain rfl : k = j := by omega
            rw [← Hme.out]; exact hr'.2.2
        obtain ⟨hr0, hr1, _⟩ := hr'
        have Hlr := Lib.hid (show 0 ≤ r ∧ r ≤ 1048576 from ⟨hr0, by omega⟩)
        clear hr hl0 hl1 hr1 hall
        go_wp2
        go_roundw
        case rel => exact ⟨j + 1, r, by omega, by go_num, rfl, Hlr.out.1, Hlr.out.2, Hall, Hb2.out⟩
        case measure => simp [intOf]; omega
    · obtain rfl : j = qs.length := by omega
      have Hbel := Lib.hid hbel; clear hbel
      have Hlr := Lib.hid (And.intro hl0 hl1)
      clear hl0 hl1
      go_wp2
      go_ret
      exact ⟨⟨_, rfl, .inr ⟨Hlr.out, by omega, hall.out⟩⟩, Hbel.out⟩
theorem szClaimS (qs : List QC) (B : Nat) (v : Value) (w : World) (hr : RdStory w B v qs) (hB : B ≤ w.heap.size) :
    Calls Tryd.prog 5 #[v, .int .i64 1048576] w fun e w' => (∃ r : Int, e = .returned (.int .i64 r) ∧ (r < 0 ∨ (0 ≤ r ∧ qs.length ≤ 1048576 ∧ ∀ j, j < qs.length → (qs.getD j qc0).2.2.length ≤ 1048576))) ∧ Below w.heap.size w w' :=
  (szClaimSB qs B v w hr hB).mono (by rintro e w' ⟨⟨r, h1, h2⟩, h3⟩; exact ⟨⟨r, h1, h2.imp id fun h => ⟨h.1.1, h.2⟩⟩, h3⟩)
theorem ccells_set (A R : List QC) (q q' : QC) (k : Nat) (hk : A.length = k) :
    ((ccells (A ++ q :: R)).set (k * 2) (.int .i64 q'.2.1)).set (k * 2 + 1) q'.1 = ccells (A ++ q' :: R) := by
  subst hk
  have hl := ccells_length A
  rw [ccells_append, ccells_append, List.set_append_right _ _ (by omega), List.set_append_right _ _ (by omega), hl]
  have e1 : A.length * 2 - A.length * 2 = 0 := by omega
  have e2 : A.length * 2 + 1 - A.length * 2 = 1 := by omega
  rw [e1, e2]
  rfl
theorem ccells_zero (n : Nat) : (madeCells #[Value.int .i64 0, Value.slice none 0 0] (n * 2)).toList = ccells (List.replicate n qc0) := by
  refine List.ext_getElem (by rw [ccells_length]; simp [madeCells]) fun i h1 h2 => ?_
  have hl : i < n * 2 := by rw [ccells_length] at h2; simpa using h2
  obtain ⟨g1, g2⟩ := ccells_get (List.replicate n qc0) (i / 2) (by simp; omega)
  have hq : (List.replicate n qc0).getD (i / 2) qc0 = qc0 := by
    rw [List.getD_eq_getElem?_getD, List.getElem?_replicate]
    split <;> rfl
  rw [hq] at g1 g2
  have hm : i % 2 = 0 ∨ i % 2 = 1 := by omega
  rcases hm with hm | hm
  · have ei : i / 2 * 2 = i := by omega
    rw [ei] at g1
    have := (List.getElem?_eq_some_iff.1 g1).2
    rw [this]
    simp [madeCells, hm, qc0]
  · have ei : i / 2 * 2 + 1 = i := by omega
    rw [ei] at g2
    have := (List.getElem?_eq_some_iff.1 g2).2
    rw [this]
    simp [madeCells, hm, qc0]
theorem rep_succ (n k : Nat) (h : k < n) : List.replicate (n - k) qc0 = qc0 :: List.replicate (n - (k + 1)) qc0 := by
  rw [show n - k = (n - (k + 1)) + 1 from by omega]; rfl
/-- what some claims say lies in blocks of which no two are the same -/
def Apart (us : List QC) : Prop := us.Pairwise fun a b => a.1.ownBlock = none ∨ a.1.ownBlock ≠ b.1.ownBlock
theorem Apart.snoc {us : List QC} {q : QC} {s : Nat} (h : Apart us) (hl : ∀ r ∈ us, ∀ k, r.1.ownBlock = some k → k < s) (hq : ∀ k, q.1.ownBlock = some k → s ≤ k) : Apart (us ++ [q]) := by
  refine List.pairwise_append.2 ⟨h, by simp, fun a ha b hb => ?_⟩
  simp at hb; subst hb
  exact own_apart (hl a ha) hq
set_option maxRecDepth 100000 in
set_option maxHeartbeats 2000000 in
theorem toClaimSA (qs : List QC) (hsz : qs.length ≤ 1048576) (hms : ∀ j, j < qs.length → (qs.getD j qc0).2.2.length ≤ 1048576) (B : Nat) (v : Value) (w : World) (hr : RdStory w B v qs) (hB : B ≤ w.heap.size) :
    Calls Tryd.prog 9 #[v] w fun e w' => ∃ u us, e = .returned u ∧ us.map (·.2) = qs.map (·.2) ∧ StoryIn w' w.heap.size w.heap.size u us ∧ Apart us ∧ Below w.heap.size w w' := by
  have Hx := Lib.hid hr
  have Hms := Lib.hid hms
  obtain ⟨ao, acap, rfl, hal, ham, _, hac0⟩ := hr
  obtain ⟨ic, hci, hcz0, hcz1, hcz2⟩ := info_parts Tryd.infoC
  have hac := Lib.hid hac0; clear hac0 hms
  unfold maxLen at ham
  generalize hn : qs.length = n at *
  have Hn := Lib.hid hn; clear hn
  go_enter Tryd.func9, Tryd.ntmps9
  go_wp2_with (at_make; refine wpList_make_full _ rfl _ _ 31 rfl w.heap.size TC ic (.agg #[.int .i64 0, .slice none 0 0]) 2 Tryd.underlying31 hci hcz0 hcz1 _ _ _ _ n rfl rfl rfl rfl ?b1 ?b2 ?b3 ?_)
  case b1 => rw [hcz2]; omega
  case b2 => unfold maxLen; omega
  case b3 => exact Nat.le_refl _
  clear hci hcz0 hcz1 hcz2
  intro w1 hown hgrow
  have hb1 : Below w.heap.size w w1 := (Below.refl _ _).grown hgrow (Nat.le_refl _) (fun k hk => by cases hk)
  clear hgrow
  generalize hg : w.heap.size = g at *
  have Hg := Lib.hid hg; clear hg
  have hown0 : w1.ownsRow g TC 2 (.slice (some ⟨g, 0, none⟩) n n) n (ccells (([] : List QC) ++ List.replicate (n - 0) qc0)) := by
    rw [List.nil_append, Nat.sub_zero, ← ccells_zero]
    simpa [Value.cells] using hown
  clear hown
  go_wp2
  go_loopw [4] (fun i wr => ∃ (k : Nat) (us : List QC), k ≤ n ∧ i = .int .i64 k ∧ us.length = k ∧ us.map (·.2) = (qs.take k).map (·.2) ∧ wr.ownsRow g TC 2 (.slice (some ⟨g, 0, none⟩) n n) n (ccells (us ++ List.replicate (n - k) qc0)) ∧ (∀ q ∈ us, wr.ownsRow g TM 2 q.1 q.2.2.length (mcells q.2.2) ∧ I64s q.2.2 ∧ I64 q.2.1) ∧ Apart us ∧ Below g w wr) (fun i _ => n - (intOf i).toNat)
  case atStart => exact ⟨0, [], Nat.zero_le _, rfl, rfl, by simp, hown0, fun q hq => by simp at hq, List.Pairwise.nil, hb1⟩
  case round =>
    clear hown0
    obtain ⟨k, us, hk, rfl, hul, hum, hown, hus, hap0, hgr⟩ := hrel
    by_cases hlt : k < n
    · obtain ⟨b1, o1, rfl, hbB, hc1, hc2⟩ := hac.out k hlt
      rw [← hgr.cell (p := ⟨b1, _, none⟩) (show b1 < _ by omega)] at hc1 hc2
      obtain ⟨hmk, hik⟩ := Hx.out.get (j := k) (by have := Hn.out; omega)
      have hmk' := hmk.below (w' := wr) (fun q hq => hgr.block q (by omega))
      have hlen := Hms.out k hlt
      have hsucc : (qs.take (k + 1)).map (·.2) = (qs.take k).map (·.2) ++ [(qs.getD k qc0).2] := by
        have e : qs.getD k qc0 = qs[k]'(by have := Hn.out; omega) := by simp [List.getD, show k < qs.length by have := Hn.out; omega]
        rw [List.take_succ_eq_append_getElem (by have := Hn.out; omega), List.map_append, e]
        rfl
      have hI : I64s (qs.getD k qc0).2.2 := by
        obtain ⟨_, _, _, _, _, h, _⟩ := hmk
        exact h
      rw [rep_succ n k hlt] at hown
      generalize qs.getD k qc0 = z at *
      obtain ⟨u, c⟩ := z
      obtain ⟨zk, zm⟩ := c
      dsimp only at hc1 hc2 hmk' hlen hik hI
      have Hsucc : Hid ((qs.take (k + 1)).map (·.2) = (qs.take k).map (·.2) ++ [(zk, zm)]) := hsucc
      have Hm := Lib.hid hmk'
      have hgw : g < wr.heap.size := (hown.lt g rfl).2
      have hBr : B ≤ wr.heap.size := by omega
      clear hmk hmk' hsucc
      go_wp2_with fail
      refine (toClaim zk zm hlen B u _ Hm.out hBr).mono ?_
      rintro e w2 ⟨v2, rfl, hownv, hb2⟩
      have Hap := Lib.hid (hap0.snoc (q := (v2, (zk, zm))) (s := wr.heap.size) (fun r hr k hk => ((hus r hr).1.lt k hk).2) (fun k hk => (hownv.lt k hk).1))
      obtain ⟨vo, vc, hvf⟩ := own_len hownv
      subst hvf
      clear hap0
      have hown2 := own_below hown hb2
      have hgr2 : Below g w w2 := hgr.trans (hb2.mono (by omega))
      have hus2 : ∀ q ∈ us, w2.ownsRow g TM 2 q.1 q.2.2.length (mcells q.2.2) ∧ I64s q.2.2 ∧ I64 q.2.1 := fun q hq => ⟨own_below (hus q hq).1 hb2, (hus q hq).2⟩
      have hownv2 : w2.ownsRow g TM 2 (.slice vo zm.length vc) zm.length (mcells zm) := own_mono hownv (by omega)
      have hfz := hown2.frozenAt
      have hl2 : (ccells (us ++ qc0 :: List.replicate (n - (k + 1)) qc0)).length = n * 2 := by rw [ccells_length]; simp; omega
      obtain ⟨u1, hu1⟩ : ∃ u, w2.cell? ⟨g, k * 2, none⟩ = some u := ⟨_, by rw [hown2.cellAt _ (by omega)]; exact List.getElem?_eq_getElem (by omega)⟩
      obtain ⟨u2, hu2⟩ : ∃ u, w2.cell? ⟨g, k * 2 + 1, none⟩ = some u := ⟨_, by rw [hown2.cellAt _ (by omega)]; exact List.getElem?_eq_getElem (by omega)⟩
      have hf1 := hfz (k * 2)
      have hf2 := hfz (k * 2 + 1)
      clear hfz
      have hst1 := hown2.stored (k * 2) (.int .i64 zk)
      have hst2 := hst1.1.stored (k * 2 + 1) (.slice vo zm.length vc)
      have hset := ccells_set us (List.replicate (n - (k + 1)) qc0) qc0 (.slice vo zm.length vc, (zk, zm)) k hul
      have hst3 := hst2.1
      rw [hset] at hst3
      have hG : w2.grownBy ((w2.setCell ⟨g, k * 2, none⟩ (.int .i64 zk)).setCell ⟨g, k * 2 + 1, none⟩ (.slice vo zm.length vc)) (some g) := grown_trans (by simpa [Value.ownBlock] using hst1.2) (by simpa [Value.ownBlock] using hst2.2)
      have hap : ∀ {x : Value} {ms : List (Int × Int)}, w2.ownsRow g TM 2 x ms.length (mcells ms) → x.ownBlock = none ∨ x.ownBlock ≠ some g := fun h => by
        have := own_ne h hown2 TM_TC
        simpa [Value.ownBlock] using this
      have hus3 : ∀ q ∈ us ++ [(.slice vo zm.length vc, (zk, zm))], ((w2.setCell ⟨g, k * 2, none⟩ (.int .i64 zk)).setCell ⟨g, k * 2 + 1, none⟩ (.slice vo zm.length vc)).ownsRow g TM 2 q.1 q.2.2.length (mcells q.2.2) ∧ I64s q.2.2 ∧ I64 q.2.1 := by
        intro q hq
        rcases List.mem_append.1 hq with hq | hq
        · exact ⟨(hus2 q hq).1.kept hG (hap (hus2 q hq).1), (hus2 q hq).2⟩
        · simp at hq; subst hq
          exact ⟨hownv2.kept hG (hap hownv2), hI, hik⟩
      have Hst := Lib.hid (show ((w2.setCell ⟨g, k * 2, none⟩ (.int .i64 zk)).setCell ⟨g, k * 2 + 1, none⟩ (.slice vo zm.length vc)).ownsRow g TC 2 (.slice (some ⟨g, 0, none⟩) n n) n (ccells ((us ++ [(.slice vo zm.length vc, (zk, zm))]) ++ List.replicate (n - (k + 1)) qc0)) by rw [List.append_assoc]; exact hst3)
      have Hus := Lib.hid hus3
      have Hgr : Hid (Below g w ((w2.setCell ⟨g, k * 2, none⟩ (.int .i64 zk)).setCell ⟨g, k * 2 + 1, none⟩ (.slice vo zm.length vc))) := (hgr2.setCell (Nat.le_refl _) _).setCell (Nat.le_refl _) _
      have Hum := Lib.hid hum
      clear hst1 hst2 hst3 hown hown2 hgr hgr2 hb2 hl2 hset hG hap hus hus2 hus3 hownv hownv2 hum hI hik
      go_wp2
      go_roundw
      case rel => exact ⟨k + 1, _, by omega, by go_num, by simp [hul], by rw [List.map_append, Hum.out, Hsucc.out]; rfl, Hst.out, Hus.out, Hap.out, Hgr.out⟩
      case measure => simp [intOf]; omega
    · obtain rfl : k = n := by omega
      have hf : StoryIn wr g g (.slice (some ⟨g, 0, none⟩) k k) us := ⟨by
        rw [Nat.sub_self, List.replicate_zero, List.append_nil] at hown
        rw [hul]; exact hown, hus⟩
      have hum' : us.map (·.2) = qs.map (·.2) := by
        rw [hum, List.take_of_length_le (by rw [Hn.out]; exact Nat.le_refl _)]
      have Hf := Lib.hid hf
      have Hum := Lib.hid hum'
      have Hap := Lib.hid hap0
      clear hown hus hf hum hum' hap0
      go_wp2
      go_ret
      have := Hg.out
      subst this
      exact ⟨_, rfl, us, Hum.out, Hf.out, Hap.out, hgr⟩
theorem toClaimS (qs : List QC) (hsz : qs.length ≤ 1048576) (hms : ∀ j, j < qs.length → (qs.getD j qc0).2.2.length ≤ 1048576) (B : Nat) (v : Value) (w : World) (hr : RdStory w B v qs) (hB : B ≤ w.heap.size) :
    Calls Tryd.prog 9 #[v] w fun e w' => ∃ u us, e = .returned u ∧ us.map (·.2) = qs.map (·.2) ∧ StoryIn w' w.heap.size w.heap.size u us ∧ Below w.heap.size w w' :=
  (toClaimSA qs hsz hms B v w hr hB).mono (by rintro e w' ⟨u, us, h1, h2, h3, _, h4⟩; exact ⟨u, us, h1, h2, h3, h4⟩)
end Go.Proofs.YtefmoljipbbmmaaDoor
/- Writing into stories, and reading what was written: contracts of the exact laws' own functions. -/
namespace Go.Proofs.YtefmoljipbbmmaaDoor
open Go.RowKit Go.Joins
theorem RdStory.kept5 {w w' : World} {v : Value} {qs : List QC} (h : RdStory w w.heap.size v qs) (hb : Below w.heap.size w w') : RdStory w' w'.heap.size v qs := (h.below hb.block).mono hb.size
/-- how many numbers are written into a story -/
def ctot : List QC → Nat
  | [] => 0
  | q :: r => 1 + q.2.2.length * 2 + ctot r
/-- a story with the numbers from k on written into it -/
def laidC : Nat → List QC → List QC
  | _, [] => []
  | k, q :: r => (q.1, ((k : Int), lay (k + 1) q.2.2.length)) :: laidC (k + 1 + q.2.2.length * 2) r
theorem laidC_length (us : List QC) : ∀ k, (laidC k us).length = us.length := by
  induction us with
  | nil => intro k; rfl
  | cons q r ih => intro k; simp [laidC, ih]
theorem laidC_fst (us : List QC) : ∀ k, (laidC k us).map (·.1) = us.map (·.1) := by
  induction us with
  | nil => intro k; rfl
  | cons q r ih => intro k; simp [laidC, ih]
theorem ctot_succ (us : List QC) : ∀ i, i < us.length → ctot (us.take (i + 1)) = ctot (us.take i) + 1 + (us.getD i qc0).2.2.length * 2 := by
  induction us with
  | nil => intro i hi; simp at hi
  | cons q r ih =>
    intro i hi
    cases i with
    | zero => simp [ctot]
    | succ i =>
      have := ih i (by simpa using hi)
      simp only [List.take_succ_cons, ctot, List.getD_cons_succ]
      omega
theorem ctot_take_le (us : List QC) : ∀ i, ctot (us.take i) ≤ ctot us := by
  induction us with
  | nil => intro i; simp
  | cons q r ih =>
    intro i
    cases i with
    | zero => simp [ctot]
    | succ i => have := ih i; simp only [List.take_succ_cons, ctot]; omega
theorem laidC_get (us : List QC) : ∀ k i, i < us.length → (laidC k us).getD i qc0 = ((us.getD i qc0).1, (((k + ctot (us.take i) : Nat) : Int), lay (k + ctot (us.take i) + 1) (us.getD i qc0).2.2.length)) := by
  induction us with
  | nil => intro k i hi; simp at hi
  | cons q r ih =>
    intro k i hi
    cases i with
    | zero => simp [laidC, ctot]
    | succ i =>
      have := ih (k + 1 + q.2.2.length * 2) i (by simpa using hi)
      simp only [laidC, List.getD_cons_succ, List.take_succ_cons, ctot]
      rw [this]
      have e : k + 1 + q.2.2.length * 2 + ctot (r.take i) = k + (1 + q.2.2.length * 2 + ctot (r.take i)) := by omega
      rw [e]
/-- the first i claims are written, the others are as they were -/
def mixC (k : Nat) (us : List QC) (i : Nat) : List QC := (laidC k us).take i ++ us.drop i
theorem mixC_zero (k : Nat) (us : List QC) : mixC k us 0 = us := by simp [mixC]
theorem mixC_all (k : Nat) (us : List QC) : mixC k us us.length = laidC k us := by
  unfold mixC
  rw [List.take_of_length_le (by rw [laidC_length]; exact Nat.le_refl _), List.drop_length, List.append_nil]
theorem mixC_at (k : Nat) (us : List QC) (i : Nat) (hi : i < us.length) : mixC k us i = (laidC k us).take i ++ us.getD i qc0 :: us.drop (i + 1) := by
  unfold mixC
  have e : us.getD i qc0 = us[i] := by simp [List.getD, hi]
  rw [e, ← List.drop_eq_getElem_cons hi]
theorem mixC_succ (k : Nat) (us : List QC) (i : Nat) (hi : i < us.length) : mixC k us (i + 1) = (laidC k us).take i ++ (laidC k us).getD i qc0 :: us.drop (i + 1) := by
  unfold mixC
  have hl : i < (laidC k us).length := by rw [laidC_length]; exact hi
  have e : (laidC k us).getD i qc0 = (laidC k us)[i] := by simp [List.getD, hl]
  rw [List.take_succ_eq_append_getElem hl, e, List.append_assoc]
  rfl
theorem mixC_fst (k : Nat) (us : List QC) (i : Nat) : (mixC k us i).map (·.1) = us.map (·.1) := by
  unfold mixC
  rw [List.map_append, List.map_take, laidC_fst, List.map_drop, List.take_append_drop]
theorem Apart.of_fst {us vs : List QC} (h : Apart us) (e : vs.map (·.1) = us.map (·.1)) : Apart vs := by
  unfold Apart at h ⊢
  have h1 : (us.map (·.1)).Pairwise fun a b => a.ownBlock = none ∨ a.ownBlock ≠ b.ownBlock := List.pairwise_map.2 h
  rw [← e] at h1
  exact List.pairwise_map.1 h1
theorem Apart.mid {A R : List QC} {q : QC} (h : Apart (A ++ q :: R)) : (∀ r ∈ A, r.1.ownBlock = none ∨ r.1.ownBlock ≠ q.1.ownBlock) ∧ ∀ r ∈ R, r.1.ownBlock = none ∨ r.1.ownBlock ≠ q.1.ownBlock := by
  obtain ⟨_, h2, h3⟩ := List.pairwise_append.1 h
  obtain ⟨h4, _⟩ := List.pairwise_cons.1 h2
  refine ⟨fun r hr => h3 r hr q (by simp), fun r hr => ?_⟩
  rcases h4 r hr with h | h
  · cases hb : r.1.ownBlock with
    | none => exact .inl rfl
    | some k => rw [h]; exact .inr (by simp)
  · exact .inr fun e => h e.symm
/-- nothing is changed but a story's own blocks -/
def OnlyIn (us : List QC) (v : Value) (w w' : World) : Prop :=
  w'.os = w.os ∧ w'.tape = w.tape ∧ w'.output = w.output ∧ w.heap.size ≤ w'.heap.size ∧ ∀ i, i < w.heap.size → some i ≠ v.ownBlock → (∀ q ∈ us, some i ≠ q.1.ownBlock) → w'.heap[i]? = w.heap[i]?
theorem mixC_length (k : Nat) (us : List QC) (i : Nat) : (mixC k us i).length = us.length := by
  have := congrArg List.length (mixC_fst k us i)
  simpa using this
theorem ccells_set1 (A R : List QC) (u : Value) (k k' : Int) (ms : List (Int × Int)) (j : Nat) (hj : A.length = j) :
    (ccells (A ++ (u, (k, ms)) :: R)).set (j * 2) (.int .i64 k') = ccells (A ++ (u, (k', ms)) :: R) := by
  subst hj
  have hl := ccells_length A
  rw [ccells_append, ccells_append, List.set_append_right _ _ (by omega), hl, Nat.sub_self]
  rfl
theorem ccells_marks (A R : List QC) (u : Value) (k : Int) (ms ms' : List (Int × Int)) : ccells (A ++ (u, (k, ms)) :: R) = ccells (A ++ (u, (k, ms')) :: R) := by
  rw [ccells_append, ccells_append]; rfl
theorem OnlyIn.below {us : List QC} {v : Value} {w w' : World} {B : Nat} (h : OnlyIn us v w w') (hv : ∀ k, v.ownBlock = some k → B ≤ k) (hq : ∀ q ∈ us, ∀ k, q.1.ownBlock = some k → B ≤ k) (hB : B ≤ w.heap.size := by omega) : Below B w w' :=
  ⟨h.1, h.2.1, h.2.2.1, h.2.2.2.1, fun i hi => h.2.2.2.2 i (by omega) (fun e => by have := hv i e.symm; omega) (fun q hm e => by have := hq q hm i e.symm; omega)⟩
theorem own_only {us : List QC} {vv v : Value} {w w' : World} {base n size : Nat} {e : TypeId} {xs : List Value} (h : w.ownsRow base e size v n xs) (ho : OnlyIn us vv w w') (hv : ∀ k, v.ownBlock = some k → some k ≠ vv.ownBlock) (hq : ∀ k, v.ownBlock = some k → ∀ q ∈ us, some k ≠ q.1.ownBlock) : w'.ownsRow base e size v n xs := by
  refine ⟨h.1, ?_⟩
  rcases h.2 with h2 | ⟨g, cap, cur, rfl, hb, hg, h3⟩
  · exact .inl h2
  · refine .inr ⟨g, cap, cur, rfl, hb, ?_, h3⟩
    rw [← hg]
    exact ho.2.2.2.2 g (Array.getElem?_eq_some_iff.1 hg).1 (hv g rfl) (hq g rfl)
/-- a story's blocks lie between its base and the heap's end -/
theorem StoryIn.inside {w : World} {b : Nat} {v : Value} {us : List QC} (h : StoryIn w b b v us) : (∀ k, v.ownBlock = some k → b ≤ k ∧ k < w.heap.size) ∧ ∀ q ∈ us, ∀ k, q.1.ownBlock = some k → b ≤ k ∧ k < w.heap.size :=
  ⟨fun k hk => h.1.lt k hk, fun q hq k hk => (h.2 q hq).1.lt k hk⟩
theorem ctot_bound (us : List QC) (hl : us.length ≤ 1048576) (hm : ∀ q ∈ us, q.2.2.length ≤ 1048576) : ctot us ≤ 4000000000000 := by
  have h : ∀ l : List QC, (∀ q ∈ l, q.2.2.length ≤ 1048576) → ctot l ≤ l.length * 2097153 := fun l => by
    induction l with
    | nil => intro _; simp [ctot]
    | cons q r ih =>
      intro h
      have h1 := ih (fun q hq => h q (by simp [hq]))
      have h2 := h q (by simp)
      simp only [ctot, List.length_cons]
      omega
  have := h us hm
  have h2 : us.length * 2097153 ≤ 1048576 * 2097153 := Nat.mul_le_mul_right _ hl
  omega
theorem story_bound {us zs : List QC} (he : us.map (·.2) = zs.map (·.2)) (hl : zs.length ≤ 1048576) (hm : ∀ j, j < zs.length → (zs.getD j qc0).2.2.length ≤ 1048576) : us.length ≤ 1048576 ∧ ∀ q ∈ us, q.2.2.length ≤ 1048576 := by
  have hlen := congrArg List.length he
  simp at hlen
  refine ⟨by omega, fun q hq => ?_⟩
  have h1 : q.2 ∈ us.map (·.2) := List.mem_map.2 ⟨q, hq, rfl⟩
  rw [he] at h1
  obtain ⟨z, hz, e⟩ := List.mem_map.1 h1
  obtain ⟨j, hj, ez⟩ := List.getElem_of_mem hz
  have := hm j hj
  rw [show zs.getD j qc0 = z by simp [List.getD, hj, ez]] at this
  rw [← e]; exact this
theorem OnlyIn.refl (us : List QC) (v : Value) (w : World) : OnlyIn us v w w := ⟨rfl, rfl, rfl, Nat.le_refl _, fun _ _ _ _ => rfl⟩
theorem OnlyIn.row {us : List QC} {v : Value} {w w1 w2 : World} {row : Option Nat} (h : OnlyIn us v w w1) (hg : w1.grownBy w2 row) (hr : row = none ∨ row = v.ownBlock ∨ ∃ q ∈ us, row = q.1.ownBlock) : OnlyIn us v w w2 := by
  obtain ⟨h1, h2, h3, h4, h5⟩ := h
  refine ⟨hg.os.trans h1, hg.tape.trans h2, hg.output.trans h3, Nat.le_trans h4 hg.size, fun i hi hv hq => ?_⟩
  rw [← h5 i hi hv hq]
  refine hg.block i (by omega) ?_
  rcases hr with h | h | ⟨q, hm, h⟩
  · rw [h]; simp
  · rw [h]; exact fun e => hv e
  · rw [h]; exact fun e => hq q hm e
/-- one claim more is written -/
theorem mark_step {w wr : World} {base ib g cap : Nat} {us : List QC} {k0 j K : Nat} (hj : j < us.length) (hK : K = k0 + ctot (us.take j)) (hk0 : k0 + ctot us ≤ 4611686018427387904) (hap : Apart us)
    (hst : StoryIn wr base ib (.slice (some ⟨g, 0, none⟩) us.length cap) (mixC k0 us j)) (ho : OnlyIn us (.slice (some ⟨g, 0, none⟩) us.length cap) w wr) :
    (wr.setCell ⟨g, j * 2, none⟩ (.int .i64 K)).ownsRow ib TM 2 (us.getD j qc0).1 (us.getD j qc0).2.2.length (mcells (us.getD j qc0).2.2) ∧
    wr.cell? ⟨g, j * 2 + 1, none⟩ = some (us.getD j qc0).1 ∧ wr.cell? ⟨g, j * 2, none⟩ = some (.int .i64 (us.getD j qc0).2.1) ∧ wr.frozen? ⟨g, j * 2, none⟩ = false ∧
    ∀ w2 : World, w2.ownsRow ib TM 2 (us.getD j qc0).1 (us.getD j qc0).2.2.length (mcells (lay (K + 1) (us.getD j qc0).2.2.length)) → (wr.setCell ⟨g, j * 2, none⟩ (.int .i64 K)).grownBy w2 (us.getD j qc0).1.ownBlock →
      StoryIn w2 base ib (.slice (some ⟨g, 0, none⟩) us.length cap) (mixC k0 us (j + 1)) ∧ OnlyIn us (.slice (some ⟨g, 0, none⟩) us.length cap) w w2 := by
  have hA : ((laidC k0 us).take j).length = j := by rw [List.length_take, laidC_length]; omega
  have hlg := laidC_get us k0 j hj
  rw [← hK] at hlg
  have e0 := mixC_at k0 us j hj
  have e1 := mixC_succ k0 us j hj
  have hlen := mixC_length k0 us j
  have hlen1 := mixC_length k0 us (j + 1)
  have hap0 := hap.of_fst (mixC_fst k0 us j)
  have hctl := ctot_take_le us (j + 1)
  have hcs := ctot_succ us j hj
  have hmem : us.getD j qc0 ∈ us := by
    have e : us.getD j qc0 = us[j] := by simp [List.getD, hj]
    rw [e]; exact List.getElem_mem hj
  have hfst : (us.getD j qc0).1.ownBlock = none ∨ ∃ q ∈ us, (us.getD j qc0).1.ownBlock = q.1.ownBlock := .inr ⟨_, hmem, rfl⟩
  rw [e0] at hap0
  obtain ⟨hown, hin⟩ := hst
  rw [hlen] at hown
  rw [e0] at hown hin
  rw [hlg] at e1
  have hqj := (hin (us.getD j qc0) (by simp)).1
  have hcell := hown.cellAt (j * 2) (by omega)
  have hcell1 := hown.cellAt (j * 2 + 1) (by omega)
  have hfz := hown.frozenAt (j * 2)
  have hget := ccells_get (mixC k0 us j) j (by rw [hlen]; exact hj)
  have hgd : (mixC k0 us j).getD j qc0 = us.getD j qc0 := by
    rw [e0, List.getD_eq_getElem?_getD, List.getElem?_append_right (by omega), hA, Nat.sub_self]
    rfl
  rw [hgd, e0] at hget
  rw [hget.1] at hcell
  rw [hget.2] at hcell1
  have hs := hown.stored (j * 2) (.int .i64 K)
  generalize us.getD j qc0 = q at *
  obtain ⟨u, k, ms⟩ := q
  dsimp only at hqj hcell hcell1 hfst e1 ⊢
  rw [ccells_set1 _ _ _ _ _ _ j hA] at hs
  obtain ⟨hs1, hs2⟩ := hs
  have hk1 : ∀ {x : Value} {zs : List (Int × Int)}, wr.ownsRow ib TM 2 x zs.length (mcells zs) → (wr.setCell ⟨g, j * 2, none⟩ (.int .i64 K)).ownsRow ib TM 2 x zs.length (mcells zs) := fun h => h.kept hs2 (own_ne h hown TM_TC)
  have hu1 := hk1 hqj
  refine ⟨hu1, hcell1, hcell, hfz, fun w2 hu2 hg2 => ?_⟩
  obtain ⟨hmA, hmR⟩ := hap0.mid
  refine ⟨⟨?_, ?_⟩, (ho.row hs2 (.inr (.inl rfl))).row hg2 (hfst.elim .inl (fun h => .inr (.inr h)))⟩
  · rw [hlen1, e1, ccells_marks _ _ _ _ (lay (K + 1) ms.length) ms]
    exact hs1.kept hg2 (own_ne hs1 hu1 (fun e => TM_TC e.symm))
  · intro r hr
    rw [e1] at hr
    simp only [List.mem_append, List.mem_cons] at hr
    rcases hr with hr | rfl | hr
    · have := hin r (by simp [hr])
      exact ⟨(hk1 this.1).kept hg2 (hmA r hr), this.2⟩
    · dsimp only at hcs ⊢
      rw [lay_length]
      exact ⟨hu2, lay_I64 (by omega), by unfold I64; omega⟩
    · have := hin r (by simp [hr])
      exact ⟨(hk1 this.1).kept hg2 (hmR r hr), this.2⟩
set_option maxRecDepth 100000 in
set_option maxHeartbeats 2000000 in
theorem markClaimS (us : List QC) (k0 : Nat) (hk0 : k0 + ctot us ≤ 4611686018427387904) (base ib : Nat) (v : Value) (w : World) (hx : StoryIn w base ib v us) (hap : Apart us) :
    Calls Tryd.prog 18 #[v, .int .i64 k0] w fun e w' => e = .returned (.int .i64 ((k0 + ctot us : Nat) : Int)) ∧ StoryIn w' base ib v (laidC k0 us) ∧ OnlyIn us v w w' := by
  by_cases h0 : us.length = 0
  · have hz : us = [] := List.eq_nil_of_length_eq_zero h0
    subst hz
    rcases ownsRow_forms hx.1 with ⟨rfl, _⟩ | ⟨g, cap, rfl⟩
    all_goals
      have Hx := Lib.hid hx
      clear hx hap h0
      go_enter Tryd.func18, Tryd.ntmps18
      go_wp2
      go_loop [1, 5] (fun q i => q = .int .i64 k0 ∧ i = .int .i64 (0 : Nat)) (fun _ _ => 0)
      case atStart => exact ⟨rfl, rfl⟩
      case round =>
        obtain ⟨rfl, rfl⟩ := hrel
        go_wp2
        go_ret
        exact ⟨rfl, Hx.out, OnlyIn.refl _ _ _⟩
  · obtain ⟨g, cap, rfl⟩ := ownsRow_form hx.1 (by omega)
    obtain ⟨n, hn⟩ : ∃ n, n = us.length := ⟨_, rfl⟩
    have hnm : n ≤ 4611686018427387904 := by
      have : ∀ l : List QC, l.length ≤ ctot l := fun l => by
        induction l with
        | nil => simp [ctot]
        | cons q r ih => simp [ctot]; omega
      have := this us
      omega
    have Hn := Lib.hid hn
    rw [← hn]
    have Hx := Lib.hid hx
    have Hap := Lib.hid hap
    have Hstep := Lib.hid (fun (wr : World) (j K : Nat) (hj : j < us.length) (hK : K = k0 + ctot (us.take j)) hst ho => mark_step (w := w) (wr := wr) (base := base) (ib := ib) (g := g) (cap := cap) hj hK hk0 hap hst ho)
    have Hlim : Hid (∀ j, k0 + ctot (us.take j) ≤ 4611686018427387904) := fun j => by have := ctot_take_le us j; omega
    have Hsucc := Lib.hid (fun j hj => ctot_succ us j hj)
    clear hx hap hn h0
    go_enter Tryd.func18, Tryd.ntmps18
    go_wp2
    go_loopw [1, 5] (fun q i wr => ∃ j : Nat, j ≤ n ∧ i = .int .i64 j ∧ q = .int .i64 ((k0 + ctot (us.take j) : Nat) : Int) ∧ StoryIn wr base ib (.slice (some ⟨g, 0, none⟩) us.length cap) (mixC k0 us j) ∧ OnlyIn us (.slice (some ⟨g, 0, none⟩) us.length cap) w wr) (fun _ i _ => n - (intOf i).toNat)
    case atStart => exact ⟨0, Nat.zero_le _, rfl, by simp [ctot], by rw [mixC_zero]; exact Hx.out, OnlyIn.refl _ _ _⟩
    case round =>
      obtain ⟨j, hj, rfl, rfl, hst, ho⟩ := hrel
      by_cases hlt : j < n
      · have hju : j < us.length := by have := Hn.out; omega
        have hK := Hlim.out j
        have hs := Hsucc.out j hju
        have hK1 := Hlim.out (j + 1)
        rw [hs] at hK1
        have Hs := Lib.hid hs
        obtain ⟨hu, hc1, hc0, hf0, hout⟩ := Hstep.out wr j _ hju rfl hst ho
        have Hout := Lib.hid hout
        have hm := markMarkS (us.getD j qc0).2.2 (k0 + ctot (us.take j) + 1) (by omega) ib _ _ hu
        have hlay := lay_length (k0 + ctot (us.take j) + 1) (us.getD j qc0).2.2.length
        clear hst ho hout hu hs hK1
        generalize us.getD j qc0 = z at *
        obtain ⟨u, zk, ms⟩ := z
        dsimp only at hc1 hc0 hm hlay
        have Hm := Lib.hid hm
        have Hout2 : Hid (∀ w2 : World, w2.ownsRow ib TM 2 u ms.length (mcells (lay (k0 + ctot (us.take j) + 1) ms.length)) → (wr.setCell ⟨g, j * 2, none⟩ (.int .i64 (k0 + ctot (us.take j) : Nat))).grownBy w2 u.ownBlock →
          StoryIn w2 base ib (.slice (some ⟨g, 0, none⟩) us.length cap) (mixC k0 us (j + 1)) ∧ OnlyIn us (.slice (some ⟨g, 0, none⟩) us.length cap) w w2) := Hout.out
        have Hs2 : Hid (ctot (us.take (j + 1)) = ctot (us.take j) + 1 + ms.length * 2) := Hs.out
        clear hm Hout Hs hlay
        generalize hq : k0 + ctot (us.take j) = q at *
        have Hq := Lib.hid hq; clear hq
        have e1 : ((q + 1 : Nat) : Int) = (q : Int) + 1 := by omega
        rw [e1] at Hm
        clear e1
        go_wp2_with fail
        refine Hm.out.mono ?_
        rintro e w2 ⟨rfl, hl2, hg2⟩
        have Hnew := Lib.hid (Hout2.out w2 hl2 hg2)
        clear hl2 hg2 Hm Hout2
        go_wp2
        go_roundw
        case rel => exact ⟨j + 1, by omega, by go_num, by rw [Hs2.out, ← Hq.out]; congr 2; omega, Hnew.out.1, Hnew.out.2⟩
        case measure => simp [intOf]; omega
      · obtain rfl : j = n := by omega
        have e : us.take j = us := List.take_of_length_le (by rw [Hn.out]; exact Nat.le_refl _)
        rw [e]
        have hst' := hst
        rw [show mixC k0 us j = laidC k0 us by rw [Hn.out]; exact mixC_all k0 us, ← Hn.out] at hst'
        rw [← Hn.out] at ho
        have Hst := Lib.hid hst'
        have Ho := Lib.hid ho
        clear hst hst' ho
        go_wp2
        go_ret
        exact ⟨rfl, Hst.out, Ho.out⟩
end Go.Proofs.YtefmoljipbbmmaaDoor
/- What stays where a call writes between two blocks alone. -/
namespace Go.Proofs.YtefmoljipbbmmaaDoor
open Go.RowKit
/-- what a call changed lies between the blocks lo and hi, and what is new lies behind all -/
def Kept (lo hi : Nat) (w w' : World) : Prop :=
  w'.os = w.os ∧ w'.tape = w.tape ∧ w'.output = w.output ∧ w.heap.size ≤ w'.heap.size ∧ ∀ i, i < w.heap.size → (i < lo ∨ hi ≤ i) → w'.heap[i]? = w.heap[i]?
theorem Kept.of_grown {lo hi : Nat} {w w' : World} {row : Option Nat} (hg : w.grownBy w' row) (h : ∀ k, row = some k → lo ≤ k ∧ k < hi) : Kept lo hi w w' :=
  ⟨hg.os, hg.tape, hg.output, hg.size, fun i hi' ho => hg.block i hi' (fun e => by have := h i e.symm; omega)⟩
theorem Kept.of_only {lo hi : Nat} {w w' : World} {us : List QC} {v : Value} (ho : OnlyIn us v w w') (h1 : ∀ k, v.ownBlock = some k → lo ≤ k ∧ k < hi) (h2 : ∀ q ∈ us, ∀ k, q.1.ownBlock = some k → lo ≤ k ∧ k < hi) : Kept lo hi w w' :=
  ⟨ho.1, ho.2.1, ho.2.2.1, ho.2.2.2.1, fun i hi' hout => ho.2.2.2.2 i hi' (fun e => by have := h1 i e.symm; omega) (fun q hq e => by have := h2 q hq i e.symm; omega)⟩
theorem Kept.size {lo hi : Nat} {w w' : World} (h : Kept lo hi w w') : w.heap.size ≤ w'.heap.size := h.2.2.2.1
theorem Kept.own {lo hi base n size : Nat} {w w' : World} {e : TypeId} {v : Value} {xs : List Value} (hk : Kept lo hi w w') (h : w.ownsRow base e size v n xs) (hv : ∀ k, v.ownBlock = some k → k < lo ∨ hi ≤ k) : w'.ownsRow base e size v n xs := by
  refine ⟨h.1, ?_⟩
  rcases h.2 with h2 | ⟨g, cap, cur, rfl, hb, hg, h3⟩
  · exact .inl h2
  · refine .inr ⟨g, cap, cur, rfl, hb, ?_, h3⟩
    rw [← hg]
    exact hk.2.2.2.2 g (Array.getElem?_eq_some_iff.1 hg).1 (hv g rfl)
theorem Kept.box {lo hi g : Nat} {w w' : World} {a b : Value} (hk : Kept lo hi w w') (h : Box w g a b) (hg : g < lo ∨ hi ≤ g) : Box w' g a b :=
  h.kept (hk.2.2.2.2 g h.2.2.2.2 hg) (by have := hk.size; have := h.2.2.2.2; omega)
theorem Kept.below {lo hi b : Nat} {w0 w w' : World} (hk : Kept lo hi w w') (h : Below b w0 w) (hb : b ≤ lo) (hs : b ≤ w.heap.size) : Below b w0 w' :=
  ⟨hk.1.trans h.os, hk.2.1.trans h.tape, hk.2.2.1.trans h.output, Nat.le_trans h.size hk.size, fun i hi' => (hk.2.2.2.2 i (by omega) (.inl (by omega))).trans (h.block i hi')⟩
theorem Kept.story {lo hi base ib : Nat} {w w' : World} {v : Value} {us : List QC} (hk : Kept lo hi w w') (h : StoryIn w base ib v us) (hv : ∀ k, v.ownBlock = some k → k < lo ∨ hi ≤ k) (hq : ∀ q ∈ us, ∀ k, q.1.ownBlock = some k → k < lo ∨ hi ≤ k) : StoryIn w' base ib v us :=
  ⟨hk.own h.1 hv, fun q hm => ⟨hk.own (h.2 q hm).1 (hq q hm), (h.2 q hm).2⟩⟩
end Go.Proofs.YtefmoljipbbmmaaDoor
/- The frame's part for arguments that are a claim, or a slice of claims. -/
namespace Go.Proofs.YtefmoljipbbmmaaDoor
open Go.RowKit Go.ChangeShapes Go.WideShapes Go.Deep Go.Joins
section
variable {H : Type} {enc : TypeId × Value → H} {P : Program} {w : World} {base : Nat} {spare : Nat → Bool} {held : Bool}
theorem open_marks1 {t e : TypeId} {f0 f1 : Field} {fuel : Nat} {v : Value} {x : DataW H × List MemPlace} (ht : P.underlying t = some (.slice e)) (he : P.underlying e = some (.struct #[f0, f1]))
    (ce : P.cellsOf e = 2) (o0 : f0.offset = 0) (o1 : f1.offset = 1) (c0 : P.cellsOf f0.type = 1) (c1 : P.cellsOf f1.type = 1)
    (i0 : P.underlying f0.type = some (.int .i64)) (i1 : P.underlying f1.type = some (.int .i64))
    (h : DataW.trod enc P w base spare held fuel t [v] = some x) : ∃ ms, RdMarks w w.heap.size v ms := by
  obtain ⟨a, len, cap, rfl⟩ : ∃ a len cap, v = .slice a len cap := by
    rcases open_slice_pairs ht he ce o0 o1 c0 c1 h with ⟨hcs, _⟩ | ⟨y, l, c, m, n, V0, V1, D0, D1, P0, P1, hcs, _⟩
    · exact ⟨_, _, _, by simpa using hcs⟩
    · exact ⟨_, _, _, by simpa using hcs⟩
  obtain ⟨ms, hms⟩ := open_marks ht he ce o0 o1 c0 c1 i0 i1 (show DataW.trod enc P w base spare held fuel t (Value.slice a len cap).cells.toList = some x from h)
  exact ⟨ms, RdMarks.of_row hms⟩
theorem open_claim {r : Reach} {b0 : Nat} {t e : TypeId} {f0 f1 g0 g1 : Field} {v : Value} {d : DataW H} {p : List MemPlace} (hs : P.underlying t = some (.struct #[f0, f1])) (hone : oneCellFields P #[f0, f1] = true) (hC : P.cellsOf t = 2)
    (i0 : P.underlying f0.type = some (.int .i64)) (ht : P.underlying f1.type = some (.slice e)) (he : P.underlying e = some (.struct #[g0, g1]))
    (ce : P.cellsOf e = 2) (o0 : g0.offset = 0) (o1 : g1.offset = 1) (c0 : P.cellsOf g0.type = 1) (c1 : P.cellsOf g1.type = 1)
    (j0 : P.underlying g0.type = some (.int .i64)) (j1 : P.underlying g1.type = some (.int .i64))
    (hv : Value.okWide P w r b0 t v) (h : DataW.Trod enc P w base spare held t v d p) :
    ∃ (k : Int) (u : Value) (ms : List (Int × Int)), v = .agg #[.int .i64 k, u] ∧ I64 k ∧ RdMarks w w.heap.size u ms := by
  obtain ⟨v0, v1, y0, y1, n, rfl, _, _, h0, h1⟩ := open_agg2 hs hone hC hv h
  obtain ⟨k, e0, _, w0⟩ := DataW.trod_int i0 h0
  obtain ⟨ms, hms⟩ := open_marks1 ht he ce o0 o1 c0 c1 j0 j1 h1
  exact ⟨k, v1, ms, by simp at e0; rw [e0], I64_of_wf w0, hms⟩
theorem open_story {t s e : TypeId} {f0 f1 g0 g1 : Field} {fuel len cap : Nat} {a : Option Addr} {x : DataW H × List MemPlace} (hl : P.underlying t = some (.slice s)) (hs : P.underlying s = some (.struct #[f0, f1]))
    (cs : P.cellsOf s = 2) (q0 : f0.offset = 0) (q1 : f1.offset = 1) (d0 : P.cellsOf f0.type = 1) (d1 : P.cellsOf f1.type = 1)
    (i0 : P.underlying f0.type = some (.int .i64)) (ht : P.underlying f1.type = some (.slice e)) (he : P.underlying e = some (.struct #[g0, g1]))
    (ce : P.cellsOf e = 2) (o0 : g0.offset = 0) (o1 : g1.offset = 1) (c0 : P.cellsOf g0.type = 1) (c1 : P.cellsOf g1.type = 1)
    (j0 : P.underlying g0.type = some (.int .i64)) (j1 : P.underlying g1.type = some (.int .i64))
    (h : DataW.trod enc P w base spare held fuel t (Value.slice a len cap).cells.toList = some x) : ∃ qs, len = qs.length ∧ RdStory w w.heap.size (.slice a len cap) qs := by
  rcases open_slice_pairs hl hs cs q0 q1 d0 d1 h with ⟨hcs, _⟩ | ⟨y, l, c, m, n, V0, V1, D0, D1, P0, P1, hcs, _, hlc, hm, hmm, _, hat⟩
  · simp [Value.cells] at hcs
    obtain ⟨rfl, rfl, rfl⟩ := hcs
    exact ⟨[], rfl, none, 0, rfl, Nat.le_refl _, by unfold maxLen; omega, fun q hq => by simp at hq, fun j hj => by simp at hj⟩
  · simp [Value.cells] at hcs
    obtain ⟨rfl, rfl, rfl⟩ := hcs
    have hlm : len ≤ m := by rw [hmm]; split <;> omega
    have each : ∀ i, i < len → ∃ q : QC, V0 i = .int .i64 q.2.1 ∧ V1 i = q.1 ∧ RdMarks w w.heap.size q.1 q.2.2 ∧ I64 q.2.1 := by
      intro i hi
      obtain ⟨_, _, h0, h1⟩ := hat i (by omega)
      obtain ⟨n0, e0, _, w0⟩ := DataW.trod_int i0 h0
      obtain ⟨ms, hms⟩ := open_marks1 ht he ce o0 o1 c0 c1 j0 j1 h1
      exact ⟨(V1 i, (n0, ms)), by simpa using e0, rfl, hms, I64_of_wf w0⟩
    obtain ⟨q, hq⟩ := choose_lt each
    have hlen : ((List.range len).map q).length = len := by simp
    refine ⟨(List.range len).map q, hlen.symm, some y, cap, by rw [hlen], by omega, hm, ?_, fun i hi => ?_⟩
    · intro z hz
      obtain ⟨i, hi, rfl⟩ := List.mem_map.1 hz
      exact (hq i (List.mem_range.1 hi)).2.2
    · rw [hlen] at hi
      obtain ⟨h1, h2, _, _⟩ := hat i (by omega)
      have h0 := (hat 0 (by omega)).1
      rw [Nat.zero_mul] at h0
      obtain ⟨e0, e1, _, _⟩ := hq i hi
      have e : ((List.range len).map q).getD i qc0 = q i := by simp [List.getD, hi]
      rw [e, ← e0, ← e1]
      obtain ⟨b, off, rfl, hb, hc1⟩ := cell_add h0 h1
      obtain ⟨b', off', he', _, hc2⟩ := cell_add h0 h2
      cases he'
      exact ⟨b, off, rfl, hb, hc1, by rw [Nat.add_assoc]; exact hc2⟩
end
end Go.Proofs.YtefmoljipbbmmaaDoor
/- The frame's part for a slice of structs of three one-cell fields, opened at every index; and for arguments that are proofs. -/
namespace Go.Proofs.YtefmoljipbbmmaaDoor
open Go.RowKit Go.ChangeShapes Go.WideShapes Go.Deep Go.Joins
section
variable {H : Type} {enc : TypeId × Value → H} {P : Program} {w : World} {base : Nat} {spare : Nat → Bool} {held : Bool}
theorem open_slice_threes {t e : TypeId} {f0 f1 f2 : Field} {fuel : Nat} {cs : List Value} {x : DataW H × List MemPlace} (ht : P.underlying t = some (.slice e)) (he : P.underlying e = some (.struct #[f0, f1, f2]))
    (ce : P.cellsOf e = 3) (o0 : f0.offset = 0) (o1 : f1.offset = 1) (o2 : f2.offset = 2) (c0 : P.cellsOf f0.type = 1) (c1 : P.cellsOf f1.type = 1) (c2 : P.cellsOf f2.type = 1)
    (h : DataW.trod enc P w base spare held fuel t cs = some x) :
    (cs = [.slice none 0 0]) ∨
    ∃ (a : Addr) (len cap n : Nat) (V0 V1 V2 : Nat → Value) (Y0 Y1 Y2 : Nat → DataW H × List MemPlace), cs = [.slice (some a) len cap] ∧ len ≤ cap ∧ cap ≤ maxLen ∧
      ∀ i, i < len → w.cell? (a.add (i * 3)) = some (V0 i) ∧ w.cell? (a.add (i * 3 + 1)) = some (V1 i) ∧ w.cell? (a.add (i * 3 + 2)) = some (V2 i) ∧
        DataW.trod enc P w base spare held n f0.type [V0 i] = some (Y0 i) ∧ DataW.trod enc P w base spare held n f1.type [V1 i] = some (Y1 i) ∧ DataW.trod enc P w base spare held n f2.type [V2 i] = some (Y2 i) := by
  rcases open_slice ht h with h0 | ⟨a, len, cap, m, n, D, Pl, rfl, hb, hl, hm, hmm, rfl, hx⟩
  · exact Or.inl h0.1
  right
  have hlm : len ≤ m := by rw [hmm]; split <;> omega
  have each : ∀ i, i < len → ∃ q : (Value × Value × Value) × ((DataW H × List MemPlace) × (DataW H × List MemPlace) × (DataW H × List MemPlace)), w.cell? (a.add (i * 3)) = some q.1.1 ∧ w.cell? (a.add (i * 3 + 1)) = some q.1.2.1 ∧ w.cell? (a.add (i * 3 + 2)) = some q.1.2.2 ∧
      DataW.trod enc P w base spare held (n - 1) f0.type [q.1.1] = some q.2.1 ∧ DataW.trod enc P w base spare held (n - 1) f1.type [q.1.2.1] = some q.2.2.1 ∧ DataW.trod enc P w base spare held (n - 1) f2.type [q.1.2.2] = some q.2.2.2 := by
    intro i hi
    obtain ⟨cs', h1, h2⟩ := hx i (by omega)
    rw [ce] at h1
    obtain ⟨_, hlen, hcell⟩ := World.cells?_some h1
    obtain ⟨xs, k, hk, hxy, _, hxl, hf⟩ := DataW.trod_struct he h2
    have hk' : k = n - 1 := by omega
    subst hk'
    match xs, hxl, cs', hlen with
    | [y0, y1, y2], _, [v0, v1, v2], _ =>
      have g0 := hf 0 f0 rfl
      have g1 := hf 1 f1 rfl
      have g2 := hf 2 f2 rfl
      simp [o0, o1, o2, c0, c1, c2] at g0 g1 g2
      have e0 := hcell 0 (by omega)
      have e1 := hcell 1 (by omega)
      have e2 := hcell 2 (by omega)
      rw [add_add] at e0 e1 e2
      exact ⟨((v0, v1, v2), (y0, y1, y2)), by simpa using e0, by simpa using e1, by simpa using e2, g0, g1, g2⟩
  obtain ⟨q, hq⟩ := choose_lt each
  exact ⟨a, len, cap, n - 1, fun i => (q i).1.1, fun i => (q i).1.2.1, fun i => (q i).1.2.2, fun i => (q i).2.1, fun i => (q i).2.2.1, fun i => (q i).2.2.2, rfl, hl, hm, hq⟩
theorem open_splits {t e : TypeId} {f0 f1 f2 : Field} {fuel : Nat} {v : Value} {x : DataW H × List MemPlace} (ht : P.underlying t = some (.slice e)) (he : P.underlying e = some (.struct #[f0, f1, f2]))
    (ce : P.cellsOf e = 3) (o0 : f0.offset = 0) (o1 : f1.offset = 1) (o2 : f2.offset = 2) (c0 : P.cellsOf f0.type = 1) (c1 : P.cellsOf f1.type = 1) (c2 : P.cellsOf f2.type = 1)
    (i0 : P.underlying f0.type = some (.int .i64)) (i1 : P.underlying f1.type = some (.int .i64)) (i2 : P.underlying f2.type = some (.int .i64))
    (h : DataW.trod enc P w base spare held fuel t [v] = some x) : ∃ sp, RdSplits w w.heap.size v sp := by
  rcases open_slice_threes ht he ce o0 o1 o2 c0 c1 c2 h with hcs | ⟨y, l, c, n, V0, V1, V2, Y0, Y1, Y2, hcs, hl, hm, hat⟩
  · simp at hcs
    subst hcs
    exact ⟨[], RdSplits.nil _ _⟩
  · simp at hcs
    subst hcs
    have each : ∀ i, i < l → ∃ q : Sp3, V0 i = .int .i64 q.1 ∧ V1 i = .int .i64 q.2.1 ∧ V2 i = .int .i64 q.2.2 ∧ I64 q.1 ∧ I64 q.2.1 ∧ I64 q.2.2 := by
      intro i hi
      obtain ⟨_, _, _, h0, h1, h2⟩ := hat i hi
      obtain ⟨n0, e0, _, w0⟩ := DataW.trod_int i0 h0
      obtain ⟨n1, e1, _, w1⟩ := DataW.trod_int i1 h1
      obtain ⟨n2, e2, _, w2⟩ := DataW.trod_int i2 h2
      exact ⟨(n0, n1, n2), by simpa using e0, by simpa using e1, by simpa using e2, I64_of_wf w0, I64_of_wf w1, I64_of_wf w2⟩
    obtain ⟨q, hq⟩ := choose_lt each
    have hlen : ((List.range l).map q).length = l := by simp
    refine ⟨(List.range l).map q, some y, c, by rw [hlen], by rw [hlen]; omega, hm, ?_, fun i hi => ?_⟩
    · intro z hz
      obtain ⟨i, hi, rfl⟩ := List.mem_map.1 hz
      exact (hq i (List.mem_range.1 hi)).2.2.2
    · rw [hlen] at hi
      obtain ⟨h0, h1, h2, _⟩ := hat i hi
      have h00 := (hat 0 (by omega)).1
      rw [Nat.zero_mul] at h00
      obtain ⟨e0, e1, e2, _⟩ := hq i hi
      have e : ((List.range l).map q).getD i sp0 = q i := by simp [List.getD, hi]
      rw [e, ← e0, ← e1, ← e2]
      obtain ⟨b, off, rfl, hb, hc0⟩ := cell_add h00 h0
      obtain ⟨b', off', he', _, hc1⟩ := cell_add h00 h1
      cases he'
      obtain ⟨b', off', he', _, hc2⟩ := cell_add h00 h2
      cases he'
      exact ⟨b, off, rfl, hb, hc0, by rw [Nat.add_assoc]; exact hc1, by rw [Nat.add_assoc]; exact hc2⟩
theorem open_proof {r : Reach} {b0 : Nat} {t e : TypeId} {f0 f1 g0 g1 g2 : Field} {v : Value} {d : DataW H} {p : List MemPlace} (hs : P.underlying t = some (.struct #[f0, f1])) (hone : oneCellFields P #[f0, f1] = true) (hC : P.cellsOf t = 2)
    (i0 : P.underlying f0.type = some (.int .i64)) (ht : P.underlying f1.type = some (.slice e)) (he : P.underlying e = some (.struct #[g0, g1, g2]))
    (ce : P.cellsOf e = 3) (o0 : g0.offset = 0) (o1 : g1.offset = 1) (o2 : g2.offset = 2) (c0 : P.cellsOf g0.type = 1) (c1 : P.cellsOf g1.type = 1) (c2 : P.cellsOf g2.type = 1)
    (j0 : P.underlying g0.type = some (.int .i64)) (j1 : P.underlying g1.type = some (.int .i64)) (j2 : P.underlying g2.type = some (.int .i64))
    (hv : Value.okWide P w r b0 t v) (h : DataW.Trod enc P w base spare held t v d p) :
    ∃ (k : Int) (u : Value) (sp : List Sp3), v = .agg #[.int .i64 k, u] ∧ I64 k ∧ RdSplits w w.heap.size u sp := by
  obtain ⟨v0, v1, y0, y1, n, rfl, _, _, h0, h1⟩ := open_agg2 hs hone hC hv h
  obtain ⟨k, e0, _, w0⟩ := DataW.trod_int i0 h0
  obtain ⟨sp, hsp⟩ := open_splits ht he ce o0 o1 o2 c0 c1 c2 j0 j1 j2 h1
  exact ⟨k, v1, sp, by simp at e0; rw [e0], I64_of_wf w0, hsp⟩
end
end Go.Proofs.YtefmoljipbbmmaaDoor

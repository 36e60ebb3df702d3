/- Contract of the reference's least stories. -/
import Derived.Test.YtncihjelpaiocaaOneT
import Derived.Deep.RegionHeld3
import Derived.Deep.Cut
namespace Go.Proofs.Ytncihjelpaiocaa
open Go.RowKit Go.Joins
theorem ccells_nil0 : ccells [] = [] := rfl
theorem own_drewU {w : World} {base : Nat} {e : TypeId} {size : Nat} {v : Value} {n : Nat} {xs : List Value} (h : w.ownsRow base e size v n xs) (k : Nat) : (w.drewN k).ownsRow base e size v n xs := h
attribute [local irreducible] holds tabN tabV holdsV sameV followsV alwaysV matterV claimOk mayT mayV ctabV ctabN storyV storyOk storyN storyT ctermV ctermL clashV onlyOk onlyN knownF knownL knownK cntK swl needL leastR leastV ccells mcells
/-- an append onto a row of the call's own, in a region that draws its order -/
theorem app_own {P : Program} {ops : Array Oper} {o : Oper} {a : Act} {w : World} {K : Act → World → Prop} {Q : Exit → Act → World → Prop} {E : Prop} {i : TypeInfo} (hgd : o.guard = none) (s x : Operand) (t e : TypeId) (base size bytes : Nat) (z : Value)
    (ho : o.op = .call { callee := .builtin .append, args := #[s, x], argTypes := #[t, t] }) (ht : P.underlying t = some (.slice e)) (hi : P.info? e = some i) (hz : i.zero = some z) (hsize : i.size = size) (hby : i.bytes = bytes) (hzs : z.cells.size = size) (hsz : 0 < size)
    {v : Value} {n : Nat} {xs : List Value} (hs : a.eval s = v) {ad : Addr} {m c : Nat} (hx : a.eval x = .slice (some ad) m c) (hown : w.ownsRow base e size v n xs)
    {news : List Value} (hl : news.length = m * size) (hnews : ∀ j u, news[j]? = some u → w.cell? (ad.add j) = some u) (h1 : ∀ u ∈ news, u.oneCell' = true) (h63 : n + m ≤ maxLen) (hbytes : (n + m) * bytes ≤ 140737488355328) (hbase : base ≤ w.heap.size)
    (hK : ∀ v' w', w'.ownsRow base e size v' (n + m) (xs ++ news) → w.grownBy w' v.ownBlock → (v'.ownBlock = v.ownBlock ∨ v'.ownBlock = some w.heap.size) → K (a.put o.dst v') w') : if Region.wanted o (yielded ops a.tmps) = true then Oper.wp P o a w K Q else E := by
  have hw : Region.wanted o (yielded ops a.tmps) = true := by simp [Region.wanted, hgd]
  rw [if_pos hw]
  obtain ⟨v', w', hr, h2, h3, _, h5⟩ := run_append_own_at (P := P) w base t o.type e i z size bytes ht hi hz hsize hby hzs hsz v n xs hown ad m c news hl hnews h1 h63 hbytes hbase
  unfold Oper.wp execOp
  simp only [ho, resolve, invoke, builtin, Sem.run_bind, Sem.run_pure, Result.andThen_ok, List.map_toArray, List.map_cons, List.map_nil, hs, hx, hr]
  exact hK v' w' h2 h3 h5
set_option maxRecDepth 100000 in
set_option maxHeartbeats 8000000 in
theorem specLeast (p : Int) (qs : List QC) (B : Nat) (v : Value) (w : World) (hr : RdStory w B v qs) (hB : B ≤ w.heap.size) :
    Calls Try.prog 36 #[.int .i64 p, v] w fun e w' => ∃ u us, e = .returned (.tuple #[u, .bool (storyOk p (qs.map (·.2)))]) ∧ us.map (·.2) = leastV p (qs.map (·.2)) ∧ StoryIn w' w.heap.size w.heap.size u us ∧ Below w.heap.size w w' := by
  obtain ⟨ic, hci, hcz0, hcz1, hcz2⟩ := info_parts Try.infoC
  have Ci := Lib.hid hci; clear hci
  have Cz0 := Lib.hid hcz0; clear hcz0
  have Cz1 := Lib.hid hcz1; clear hcz1
  have Cz2 := Lib.hid hcz2; clear hcz2
  obtain ⟨im, hmi, hmz0, hmz1, hmz2⟩ := info_parts Try.infoM
  have Mi := Lib.hid hmi; clear hmi
  have Mz0 := Lib.hid hmz0; clear hmz0
  have Mz1 := Lib.hid hmz1; clear hmz1
  have Mz2 := Lib.hid hmz2; clear hmz2
  have hso := fun w h hB => specStoryOk p qs B v w h hB
  cases hok : storyOk p (qs.map (·.2)) with
  | false =>
    have Hf := Lib.hid (leastV_no hok)
    rw [hok] at hso
    have Hso := Lib.hid hso; clear hso hok
    go_enter Try.func36, Try.ntmps36
    go_wp2_with fail
    refine (Hso.out _ hr hB).mono ?_
    rintro e w2 ⟨rfl, hb2⟩
    have Hb2 := Lib.hid hb2; clear hb2
    go_wp2
    go_ret2
    exact ⟨_, [], rfl, by rw [Hf.out]; rfl, ⟨by rw [ccells_nil0]; exact World.ownsRow_made _ _ 0 Hb2.out.size (by unfold maxLen; omega) rfl, by simp⟩, Hb2.out.alloc Hb2.out.size _⟩
  | true =>
    have hn6 := storyOk_len hok
    have Hf := Lib.hid (leastV_yes hok)
    have Hmk0 : Hid (∀ j, j < qs.length → 0 < (qs.getD j qc0).2.2.length ∧ (qs.getD j qc0).2.2.length ≤ 15) := fun j hj => by
      have e : qs.getD j qc0 = qs[j] := by simp [List.getD, hj]
      have := (storyOk_iff.1 hok).1 qs[j].2 (List.mem_map.2 ⟨_, List.getElem_mem hj, rfl⟩)
      obtain ⟨_, _, h3, h4⟩ := claimOk_iff.1 this
      rw [e]
      obtain ⟨_, _, t, _, hp⟩ := termOk_iff.1 h3
      refine ⟨?_, by omega⟩
      rw [hp]; exact post_pos t
    rw [hok] at hso
    have Hso := Lib.hid hso; clear hso
    have Hr := Lib.hid hr
    obtain ⟨ao, cap, rfl, hl, hm, _, hac0⟩ := hr
    have hac := Lib.hid hac0; clear hac0
    unfold maxLen at hm
    obtain ⟨wo, rfl⟩ : ∃ wo : World, wo = w := ⟨_, rfl⟩
    go_enter Try.func36, Try.ntmps36
    go_wp2_with fail
    refine (Hso.out _ Hr.out hB).mono ?_
    rintro e w2 ⟨rfl, hb2⟩
    have Hb2 := Lib.hid hb2
    have hs2 := hb2.size
    clear hb2
    go_upto_region 4 with fail
    obtain ⟨w3, hw3⟩ : ∃ w3 : World, w3 = w2.alloc (.cells #[] TC) := ⟨_, rfl⟩
    have hst3 : StoryIn w3 wo.heap.size wo.heap.size (.slice (some ⟨w2.heap.size, 0, none⟩) 0 0) [] := ⟨by rw [hw3, ccells_nil0]; exact World.ownsRow_made _ _ 0 hs2 (by unfold maxLen; omega) rfl, by simp⟩
    have hb3 : Below wo.heap.size wo w3 := by rw [hw3]; exact Hb2.out.alloc hs2 _
    rw [← hw3]
    have Hst3 := Lib.hid hst3
    have Hb3 := Lib.hid hb3
    clear hw3 hst3 hb3
    go_wp2
    go_loopw [6, 7] (fun u i wr => ∃ (j : Nat) (us : List QC), j ≤ qs.length ∧ i = .int .i64 j ∧ us.map (·.2) = (qs.take j).map (·.2) ∧ StoryIn wr wo.heap.size wo.heap.size u us ∧ Below wo.heap.size wo wr) (fun _ i _ => qs.length - (intOf i).toNat)
    case atStart => exact ⟨0, [], Nat.zero_le _, rfl, rfl, Hst3.out, Hb3.out⟩
    case round =>
      clear Hst3 Hb3
      obtain ⟨j, us, hj, rfl, hum, hst, hbr⟩ := hrel
      have hul : us.length = j := by
        have := congrArg List.length hum
        simpa [Nat.min_eq_left hj] using this
      by_cases hlt : j < qs.length
      · obtain ⟨b, off, rfl, hb, hc1, hc2⟩ := hac.out j hlt
        have hc1o := hc1
        have hc2o := hc2
        have hbo : b < wo.heap.size := by omega
        rw [← hbr.cell (p := ⟨b, _, none⟩) (show b < _ by omega)] at hc1 hc2
        have hsr := hbr.size
        have hmk := (Hr.out.get hlt).1.below (w' := wr) (fun q hq => hbr.block q (by omega))
        have hik := (Hr.out.get hlt).2
        have hlen := Hmk0.out j hlt
        have hsucc : (qs.take (j + 1)).map (·.2) = (qs.take j).map (·.2) ++ [(qs.getD j qc0).2] := by
          have e : qs.getD j qc0 = qs[j] := by simp [List.getD, hlt]
          rw [List.take_succ_eq_append_getElem hlt, List.map_append, e]
          rfl
        generalize qs.getD j qc0 = z at *
        obtain ⟨y, k, ms⟩ := z
        dsimp only at hc1 hc2 hmk hik hlen hc1o hc2o
        have C1o := Lib.hid hc1o
        have C2o := Lib.hid hc2o
        clear hc1o hc2o
        obtain ⟨gy, oy, cy, rfl, hcy, hmy, hgy⟩ := hmk.form hlen.1
        have HI : Hid (I64s ms) := by obtain ⟨_, _, _, _, _, h, _⟩ := hmk; exact h
        have Hmk := Lib.hid hmk
        have Hst := Lib.hid hst
        have Hbr := Lib.hid hbr
        have Hum := Lib.hid hum
        have Hsucc := Lib.hid hsucc
        clear hmk hst hbr hum hsucc
        obtain ⟨vo, vc, hvf⟩ := own_len Hst.out.1
        rw [hul] at hvf
        subst hvf
        have HU := Lib.hid hul
        have hj6 : j ≤ 6 := by omega
        clear hul
        have hb1 : Below wr.heap.size wr (wr.alloc (.cells #[] TM)) := (Below.refl _ _).alloc (Nat.le_refl _) _
        have Hmade : Hid ((wr.alloc (.cells #[] TM)).ownsRow wr.heap.size TM 2 (.slice (some ⟨wr.heap.size, 0, none⟩) 0 0) 0 []) := World.ownsRow_made _ _ 0 (Nat.le_refl _) (by unfold maxLen; omega) rfl
        have Hcl : Hid (∀ (i : Nat) (u : Value), (mcells ms)[i]? = some u → (wr.alloc (.cells #[] TM)).cell? ((⟨gy, oy, none⟩ : Addr).add i) = some u) := (Hmk.out.below (w' := wr.alloc (.cells #[] TM)) (fun q hq => hb1.block q (by omega))).cells
        have n1 := (hb1.cell (p := ⟨b, off + j * 2, none⟩) (show b < _ by omega)).trans hc1
        have n2 := (hb1.cell (p := ⟨b, off + j * 2 + 1, none⟩) (show b < _ by omega)).trans hc2
        have N1 := Lib.hid n1
        have N2 := Lib.hid n2
        have Hb1 := Lib.hid hb1
        have hbs : b < wr.heap.size := by omega
        clear n1 n2 hb1
        go_wp2_with fail
        go_region_held3 (fun w' => w'.cell? ⟨b, off + j * 2, none⟩ = some (.int .i64 k) ∧ w'.cell? ⟨b, off + j * 2 + 1, none⟩ = some (.slice (some ⟨gy, oy, none⟩) ms.length cy))
          (first | (refine ⟨?_, ?_⟩ <;> first | go_keep | assumption) | assumption)
          (first
            | (refine app_own (by rfl) (.tmp 28) (.tmp 33) 30 TM wr.heap.size 2 16 (.agg #[.int .i64 0, .int .i64 0]) (by rfl) Try.underlying30 Mi.out Mz0.out Mz1.out Mz2.out rfl (by decide) (by rfl) (by rfl) (by first | exact Hmade.out | exact own_drewU Hmade.out _) (mcells_length _) (by first | exact Hcl.out) (mcells_one _) (by unfold maxLen; omega) (by omega) (by simp) ?_
               go_must (intro v4 w4 hown4 hgr4 _
                        have hg4 : (wr.alloc (.cells #[] TM)).grownBy w4 (some wr.heap.size) := by first | exact hgr4 | exact grownBy_drew0 hgr4 | exact grownBy_drewX hgr4
                        have m1 := (hg4.cell_far ⟨b, off + j * 2, none⟩ (by simp; omega) (by simp; omega)).trans N1.out
                        have m2 := (hg4.cell_far ⟨b, off + j * 2 + 1, none⟩ (by simp; omega) (by simp; omega)).trans N2.out
                        have hb4 := below_grown_row Hb1.out hg4 (by simp) (fun q hq => by cases hq; exact Nat.le_refl _)
                        have hs4 := hb4.size
                        rw [Nat.zero_add, List.nil_append] at hown4
                        obtain ⟨f4, p4, hv4⟩ := own_len hown4
                        subst hv4
                        have HO4 := Lib.hid hown4
                        have HS4 := Lib.hid (Hst.out.below hb4)
                        have HB4 := Lib.hid (Hbr.out.trans (hb4.mono hsr))
                        have HV4 : Hid (w4.ownsRow wo.heap.size TC 2 (.slice vo j vc) j (ccells us)) := by
                          have h := HS4.out.1
                          rw [HU.out] at h
                          exact h
                        clear hown4 hgr4 hg4 hb4))
            | (refine app_own (by rfl) (.tmp 22) (.tmp 36) 23 TC wo.heap.size 2 32 (.agg #[.int .i64 0, .slice none 0 0]) (by rfl) Try.underlying23 Ci.out Cz0.out Cz1.out Cz2.out rfl (by decide) (by rfl) (by rfl) (by first | exact HV4.out.alloc _ | exact own_drewU (HV4.out.alloc _) _) (m := 1) (news := ccells [(.slice f4 ms.length p4, (k, ms))]) (by rw [ccells_length]; rfl) (by first | exact newsC _ _ rfl _ _ _ _) (ccells_one (by simp [Value.oneCell'])) (by unfold maxLen; omega) (by omega) (by simp; omega) ?_
               go_must (intro v5 w5 hown5 hgr5 _
                        have Hout := Lib.hid (And.intro ((HS4.out.alloc (.cells #[.int .i64 k, .slice f4 ms.length p4] TC)).push (q := (.slice f4 ms.length p4, (k, ms))) ⟨own_mono (HO4.out.alloc _) hsr, HI.out, hik⟩ (by rw [HU.out]; exact hown5) (by first | exact hgr5 | exact grownBy_drew0 hgr5 | exact grownBy_drewX hgr5)) (below_grown_row (w1 := w4.alloc (.cells #[.int .i64 k, .slice f4 ms.length p4] TC)) (HB4.out.alloc (by omega) _) (by first | exact hgr5 | exact grownBy_drew0 hgr5 | exact grownBy_drewX hgr5) (by simp; omega) (fun q hq => (HS4.out.1.lt q hq).1)))
                        have q1 := (Hout.out.2.cell (p := ⟨b, off + j * 2, none⟩) hbo).trans C1o.out
                        have q2 := (Hout.out.2.cell (p := ⟨b, off + j * 2 + 1, none⟩) hbo).trans C2o.out
                        clear hown5 hgr5))
            | fail)
        go_wp2
        go_roundw
        case rel => exact ⟨j + 1, us ++ [(.slice f4 ms.length p4, (k, ms))], by omega, by go_num, by rw [List.map_append, Hum.out, Hsucc.out]; rfl, Hout.out.1, Hout.out.2⟩
        case measure => simp [intOf]; omega
      · obtain rfl : j = qs.length := by omega
        rw [List.take_length] at hum
        have hoku : storyOk p (us.map (·.2)) = true := by rw [hum]; exact hok
        have Hfin := Lib.hid (least_QN (p := p) hum)
        obtain ⟨us0, rfl⟩ : ∃ us0, us0 = us := ⟨_, rfl⟩
        have Hst := Lib.hid hst
        have Hbr := Lib.hid hbr
        have Hoku := Lib.hid hoku
        obtain ⟨vo, vc, hvf⟩ := own_len Hst.out.1
        subst hvf
        have hun6 : us0.length ≤ 6 := by omega
        have HU := Lib.hid hul
        clear hst hbr hoku hum hok hac Hr Hso Hmk0 hul
        go_wp2
        go_loopw [6, 8, 9] (fun u i _ wr => ∃ (n : Nat) (zs : List QC), n ≤ zs.length ∧ zs.length ≤ 6 ∧ i = .int .i64 n ∧ (∃ a c, u = .slice a zs.length c) ∧ StoryIn wr wo.heap.size wo.heap.size u zs ∧ Hid (storyOk p (zs.map (·.2)) = true) ∧ Hid (leastR (QN p) (zs.take n) (zs.drop n) = leastR (QN p) [] us0) ∧ Below wo.heap.size wo wr) (fun u i _ _ => lenV u - (intOf i).toNat)
        case atStart => exact ⟨0, us0, Nat.zero_le _, hun6, rfl, ⟨_, _, rfl⟩, Hst.out, Hoku, rfl, Hbr.out⟩
        case round =>
          clear Hst Hbr Hoku hun6 HU
          obtain ⟨n, zs, hnz, hz6, rfl, ⟨za, zc, rfl⟩, hst, hokz, hls, hbr⟩ := hrel
          have hsr := hbr.size
          have Hst := Lib.hid hst
          have Hbr := Lib.hid hbr
          clear hst hbr
          by_cases hlt : n < zs.length
          · have Hstep := Lib.hid (least_step (QN p) hlt)
            have Hl1 := Lib.hid (woL_len hlt)
            have Hokw : Hid (storyOk p ((woL zs n).map (·.2)) = true) := by unfold Hid; rw [woL_map]; exact woL_ok hokz.out
            have Htw := Lib.hid (fun B v w h hB => specStoryTab p (woL zs n) Hokw.out B v w h hB)
            have Htz := Lib.hid (fun B v w h hB => specStoryTab p zs hokz.out B v w h hB)
            rw [show storyN p ((woL zs n).map (·.2)) = QN p (woL zs n) from rfl] at Htw
            rw [show storyN p (zs.map (·.2)) = QN p zs from rfl] at Htz
            have Hwi := Lib.hid (fun w h => specWithout zs n hlt (by omega) w.heap.size (.slice za zs.length zc) w h (Nat.le_refl _))
            generalize QN p (woL zs n) = T1 at *
            generalize QN p zs = T2 at *
            go_wp2_with fail
            refine (Hwi.out _ Hst.out.rd).mono ?_
            rintro e w3 ⟨u3, rfl, hown3, hb3⟩
            obtain ⟨a3, c3, hv3⟩ := own_len hown3
            have hs3 := hb3.size
            have Hb3 := Lib.hid (Hbr.out.trans (hb3.mono hsr))
            have hst3 := Hst.out.below hb3
            have Hst3 := Lib.hid hst3
            have hw3 : StoryIn w3 wo.heap.size wo.heap.size u3 (woL zs n) := ⟨by rw [Hl1.out]; exact own_mono hown3 hsr, fun q hq => hst3.2 q (woL_mem hq)⟩
            subst hv3
            have Hw3 := Lib.hid hw3
            clear hown3 hb3 hst3 hw3
            go_wp2_with fail
            refine (Htw.out _ _ _ Hw3.out.rd (Nat.le_refl _)).mono ?_
            rintro e w4 ⟨rfl, hb4⟩
            have Hb4 := Lib.hid (Hb3.out.trans (hb4.mono (by omega)))
            have hs4 := hb4.size
            have Hst4 := Lib.hid (Hst3.out.below hb4)
            have Hw4 := Lib.hid (Hw3.out.below hb4)
            clear hb4
            go_wp2_with fail
            refine (Htz.out _ _ _ Hst4.out.rd (Nat.le_refl _)).mono ?_
            rintro e w5 ⟨rfl, hb5⟩
            have Hb5 := Lib.hid (Hb4.out.trans (hb5.mono (by omega)))
            have Hst5 := Lib.hid (Hst4.out.below hb5)
            have Hw5 := Lib.hid (Hw4.out.below hb5)
            clear hb5
            by_cases he : T1 = T2
            · subst he
              have Hst' : Hid (leastR (QN p) (zs.take n) (zs.drop n) = leastR (QN p) ((woL zs n).take n) ((woL zs n).drop n)) := by unfold Hid; rw [Hstep.out, if_pos rfl]
              clear Hstep
              go_wp2
              go_roundw
              case rel => exact ⟨n, woL zs n, by rw [Hl1.out]; omega, by rw [Hl1.out]; omega, by go_num, ⟨a3, c3, by rw [Hl1.out]⟩, Hw5.out, Hokw, by unfold Hid; rw [← Hst'.out]; exact hls.out, Hb5.out⟩
              case measure => simp [lenV, intOf]; omega
            · have hei : ¬ (T1 : Int) = T2 := by omega
              have Hst' : Hid (leastR (QN p) (zs.take n) (zs.drop n) = leastR (QN p) (zs.take (n + 1)) (zs.drop (n + 1))) := by unfold Hid; rw [Hstep.out, if_neg he]
              clear Hstep
              go_wp2
              go_roundw
              case rel => exact ⟨n + 1, zs, by omega, by omega, by go_num, ⟨_, _, rfl⟩, Hst5.out, hokz, by unfold Hid; rw [← Hst'.out]; exact hls.out, Hb5.out⟩
              case measure => simp [lenV, intOf]; omega
          · obtain rfl : n = zs.length := by omega
            have hz := hls.out
            rw [least_done] at hz
            have Hz := Lib.hid hz
            clear hz
            go_wp2
            go_ret2
            exact ⟨_, zs, rfl, by rw [Hz.out, Hfin.out, Hf.out], Hst.out, Hbr.out⟩
end Go.Proofs.Ytncihjelpaiocaa

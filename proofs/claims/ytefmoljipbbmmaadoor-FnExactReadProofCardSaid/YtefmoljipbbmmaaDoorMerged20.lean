/- Texts of a proof, merged: ProveY, ProveZ, ProveR. -/
import Derived.Test.YtefmoljipbbmmaaDoorMerged17
import Derived.Test.YtefmoljipbbmmaaDoorTextS
import Derived.Test.YtefmoljipbbmmaaDoorProveQ
/- Contracts of the reference's texts of proofs. -/
namespace Go.Proofs.YtefmoljipbbmmaaDoor
open Go.RowKit Go.Joins
/-- the text of a tree, as bytes -/
def bt (t : PT) : List UInt8 := t.text.map UInt8.ofNat
theorem bt_goal : bt (.leaf (-1)) = [42] := rfl
theorem bt_claim (j : Nat) : bt (.leaf (-2 - (j : Int))) = [UInt8.ofNat (48 + j)] := by
  unfold bt
  rw [PT.text, if_neg (by omega), show (-2 - (-2 - (j : Int))).toNat = j by omega]; rfl
theorem bt_node (k : Nat) (a b : PT) : bt (.node k a b) = UInt8.ofNat (97 + k) :: 40 :: (bt a ++ 44 :: (bt b ++ [41])) := by
  unfold bt
  rw [PT.text]
  simp
theorem bt_len (t : PT) : (bt t).length = 5 * t.size + 1 := by unfold bt; rw [List.length_map, PT.text_len]
theorem tree_leaf {sp : List Sp3} {f : Nat} {g : Int} (h : g < 0) : treeOf sp (f + 1) g = .leaf g := by unfold treeOf; rw [if_pos h]
theorem tree_node {sp : List Sp3} {f : Nat} {g : Int} {k : Nat} {x y : Int} (h : 0 ≤ g) (hs : sp.getD g.toNat sp0 = ((k : Int), x, y)) : treeOf sp (f + 1) g = .node k (treeOf sp f x) (treeOf sp f y) := by
  rw [treeOf, if_neg (by omega), hs, Int.toNat_natCast]
theorem abcd_nat (k : Nat) (h : k < 4) : (⟨#[97, 98, 99, 100]⟩ : ByteArray).extract k (k + 1) = ⟨[UInt8.ofNat (97 + k)].toArray⟩ := by
  have h4 : k = 0 ∨ k = 1 ∨ k = 2 ∨ k = 3 := by omega
  rcases h4 with rfl | rfl | rfl | rfl <;> decide
attribute [local irreducible] holds tabN tabV holdsV sameV followsV alwaysV matterV claimOk mayT mayV ctabV ctabN storyV storyOk storyN storyT ctermV ctermL followsF agreeN agreeB closeB chkN checks nextOk ints hfV clL provesF onceB proofV noneK growR clashF leastU unkN scells findF growT foundS foundG bt treeOf
set_option maxRecDepth 100000 in
set_option maxHeartbeats 8000000 in
theorem specText11_leaf (sp : List Sp3) (fi g : Int) (f : Nat) (hg : g = -1 ∨ ∃ j : Nat, j ≤ 5 ∧ g = -2 - (j : Int)) (pv : Value) (w : World) :
    Calls Tryd.prog 25 #[.agg #[.int .i64 fi, pv], .int .i64 g] w fun e w' => e = .returned (sv (bt (treeOf sp (f + 1) g))) ∧ Below w.heap.size w w' := by
  rw [tree_leaf (by omega)]
  obtain ⟨w2, hw2, f1, f2, hbw, hsz⟩ := new_two w (.int .i64 fi) pv 37
  have Hbw := Lib.hid hbw; clear hbw f1 f2
  rcases hg with rfl | ⟨j, hj, rfl⟩
  · rw [bt_goal]
    go_enter Tryd.func25, Tryd.ntmps25
    go_upto_region 1 with fail
    rw [← hw2]
    clear hw2
    go_wp2
    go_ret
    exact ⟨rfl, Hbw.out⟩
  · rw [bt_claim]
    have hit := specNumber (j : Int) (by omega)
    rw [Int.toNat_natCast] at hit
    generalize UInt8.ofNat (48 + j) = c at *
    have Hit := Lib.hid hit; clear hit
    have h6 : j = 0 ∨ j = 1 ∨ j = 2 ∨ j = 3 ∨ j = 4 ∨ j = 5 := by omega
    clear hj
    rcases h6 with rfl | rfl | rfl | rfl | rfl | rfl
    all_goals
      go_enter Tryd.func25, Tryd.ntmps25
      go_upto_region 1 with fail
      rw [← hw2]
      clear hw2
      go_wp2_with fail
      refine (Hit.out _).mono ?_
      rintro e w' ⟨rfl, hb1⟩
      go_wp2
      go_ret
      exact ⟨rfl, Hbw.out.trans (hb1.mono Hbw.out.size)⟩
set_option maxRecDepth 100000 in
set_option maxHeartbeats 16000000 in
theorem specText11_node (sp : List Sp3) (fi : Int) (G k : Nat) (x y : Int) (f : Nat) (hG : G < sp.length) (hs : sp.getD G sp0 = ((k : Int), x, y)) (hk : k < 4) (hl1 : (bt (treeOf sp f x)).length ≤ 80) (hl2 : (bt (treeOf sp f y)).length ≤ 80)
    (B : Nat) (pv : Value) (w : World) (hp : RdSplits w B pv sp) (hB : B ≤ w.heap.size)
    (ih1 : ∀ w', RdSplits w' B pv sp → B ≤ w'.heap.size → Calls Tryd.prog 25 #[.agg #[.int .i64 fi, pv], .int .i64 x] w' fun e w'' => e = .returned (sv (bt (treeOf sp f x))) ∧ Below w'.heap.size w' w'')
    (ih2 : ∀ w', RdSplits w' B pv sp → B ≤ w'.heap.size → Calls Tryd.prog 25 #[.agg #[.int .i64 fi, pv], .int .i64 y] w' fun e w'' => e = .returned (sv (bt (treeOf sp f y))) ∧ Below w'.heap.size w' w'') :
    Calls Tryd.prog 25 #[.agg #[.int .i64 fi, pv], .int .i64 (G : Int)] w fun e w' => e = .returned (sv (bt (treeOf sp (f + 1) G))) ∧ Below w.heap.size w w' := by
  rw [tree_node (g := (G : Int)) (by omega) (by rw [Int.toNat_natCast]; exact hs), bt_node]
  have Hp := Lib.hid hp
  obtain ⟨po, pcap, rfl, hple, hpm, _, hpc⟩ := hp
  obtain ⟨pb, poff, rfl, hpb, c1, c2, c3⟩ := hpc G hG
  unfold maxLen at hpm
  rw [hs] at c1 c2 c3
  dsimp only at c1 c2 c3
  have hcd := abcd_nat k hk
  generalize UInt8.ofNat (97 + k) = c at *
  have hsz1 : (⟨[c].toArray⟩ : ByteArray).size = 1 := rfl
  have hsz2 : ((⟨#[97, 98, 99, 100]⟩ : ByteArray).extract k (k + 1)).size = 1 := by rw [hcd]; rfl
  have Ih1 := Lib.hid ih1
  have Ih2 := Lib.hid ih2
  clear ih1 ih2 hs hpc
  generalize bt (treeOf sp f x) = M1 at *
  generalize bt (treeOf sp f y) = M2 at *
  have y1 : ¬ 9223372036854775807 < 2 + M1.length := by omega
  have y2 : ¬ 9223372036854775807 < 2 + M1.length + 1 := by omega
  have y3 : ¬ 9223372036854775807 < 2 + M1.length + 1 + M2.length := by omega
  have y4 : ¬ 9223372036854775807 < 2 + M1.length + 1 + M2.length + 1 := by omega
  generalize hn : sp.length = n at *
  have Hn := Lib.hid hn; clear hn
  obtain ⟨wo, rfl⟩ : ∃ wo : World, wo = w := ⟨_, rfl⟩
  go_enter Tryd.func25, Tryd.ntmps25
  go_upto_region 1 with fail
  obtain ⟨w2, hw2, f1, f2, hbw, hsz⟩ := new_two wo (.int .i64 fi) (.slice (some ⟨pb, poff, none⟩) n pcap) 37
  rw [← hw2]
  rw [← hbw.cell (p := ⟨pb, _, none⟩) (show pb < _ by omega)] at c1 c2 c3
  have hgs : wo.heap.size < w2.heap.size := hsz
  have Hbw := Lib.hid hbw
  clear hw2 hbw
  go_upto_region 6 with fail
  obtain ⟨w3, hw3, n1, n2, n3, hb3, hs3⟩ := new_three w2 (.int .i64 k) (.int .i64 x) (.int .i64 y) 85
  rw [← hw3]
  have q1 := (hb3.cell (p := ⟨wo.heap.size, 0, none⟩) hgs).trans f1
  have q2 := (hb3.cell (p := ⟨wo.heap.size, 1, none⟩) hgs).trans f2
  have hb03 := Hbw.out.trans (hb3.mono (by omega))
  have hs03 := hb03.size
  have Hp3 := Lib.hid (Hp.out.below (w' := w3) (fun q hq => hb03.block q (by omega)))
  have hB3 : B ≤ w3.heap.size := by omega
  have hg2 : w2.heap.size < w3.heap.size := by omega
  have hg0 : wo.heap.size < w3.heap.size := by omega
  have Hb3 := Lib.hid hb03
  clear hw3 hb3 hb03 Hp c1 c2 c3 f1 f2
  have hk0 : (0 : Int) ≤ (k : Int) := by omega
  have hk1 : (k : Int) ≤ (k : Int) + 1 := by omega
  have hk2 : (k : Int) + 1 ≤ 4 := by omega
  have hk3 : IntKind.i64.wrap ((k : Int) + 1) = (k : Int) + 1 := IntWalk.i64_in _ (by omega)
  have hkt : ((k : Int) + 1).toNat = k + 1 := by omega
  go_wp2_with fail
  go_region_held3 (fun w' => w'.cell? ⟨w2.heap.size, 0, none⟩ = some (.int .i64 k) ∧ w'.cell? ⟨w2.heap.size, 1, none⟩ = some (.int .i64 x) ∧ w'.cell? ⟨w2.heap.size, 2, none⟩ = some (.int .i64 y) ∧ w'.cell? ⟨wo.heap.size, 0, none⟩ = some (.int .i64 fi) ∧ w'.cell? ⟨wo.heap.size, 1, none⟩ = some (.slice (some ⟨pb, poff, none⟩) n pcap))
    (first | (refine ⟨?_, ?_, ?_, ?_, ?_⟩ <;> first | assumption | go_keep) | assumption)
    (first
      | (go_at_call 25
         (with_reducible refine (Ih1.out _ ?_ ?_).mono ?_)
         · exact Hp3.out
         · exact hB3
         rintro e w5 ⟨rfl, hb5'⟩
         go_must (have hb5 : Below w3.heap.size w3 w5 := by first | exact hb5' | exact below_undrewS hb5' | exact below_undrewN hb5'
                  have r1 := (hb5.cell (p := ⟨w2.heap.size, 0, none⟩) hg2).trans n1
                  have r2 := (hb5.cell (p := ⟨w2.heap.size, 1, none⟩) hg2).trans n2
                  have r3 := (hb5.cell (p := ⟨w2.heap.size, 2, none⟩) hg2).trans n3
                  have r4 := (hb5.cell (p := ⟨wo.heap.size, 0, none⟩) hg0).trans q1
                  have r5 := (hb5.cell (p := ⟨wo.heap.size, 1, none⟩) hg0).trans q2
                  have hs5 := hb5.size
                  have Hp5 := Lib.hid (Hp3.out.below (w' := w5) (fun q hq => hb5.block q (by omega)))
                  have hB5 : B ≤ w5.heap.size := by omega
                  have Hb5 := Lib.hid (Hb3.out.trans (hb5.mono (by omega)))
                  clear hb5 hb5'))
      | (go_at_call 25
         (with_reducible refine (Ih2.out _ ?_ ?_).mono ?_)
         · exact Hp5.out
         · exact hB5
         rintro e w6 ⟨rfl, hb6'⟩
         go_must (have hb6 : Below w5.heap.size w5 w6 := by first | exact hb6' | exact below_undrewS hb6' | exact below_undrewN hb6'
                  have t1 := (hb6.cell (p := ⟨w2.heap.size, 0, none⟩) (by show w2.heap.size < w5.heap.size; omega)).trans r1
                  have t2 := (hb6.cell (p := ⟨w2.heap.size, 1, none⟩) (by show w2.heap.size < w5.heap.size; omega)).trans r2
                  have t3 := (hb6.cell (p := ⟨w2.heap.size, 2, none⟩) (by show w2.heap.size < w5.heap.size; omega)).trans r3
                  have t4 := (hb6.cell (p := ⟨wo.heap.size, 0, none⟩) (by show wo.heap.size < w5.heap.size; omega)).trans r4
                  have t5 := (hb6.cell (p := ⟨wo.heap.size, 1, none⟩) (by show wo.heap.size < w5.heap.size; omega)).trans r5
                  have Hb6 := Lib.hid (Hb5.out.trans (hb6.mono (by omega)))
                  clear hb6 hb6'))
      | fail)
  go_wp2
  go_ret
  refine ⟨congrArg (fun s => Ending.returned (.string s)) ?_, Hb6.out⟩
  first
    | (rw [hcd]; simp [bs_append]; done)
    | (simp [bs_append]; done)
/-- the text of a row of splits that is right from a target on -/
theorem specText11 (P : Nat) (h4 : P ≤ 4) (hf : Nat → Bool) (cl : List (Nat → Bool)) (h6 : cl.length ≤ 6) (sp : List Sp3) (fi : Int) : ∀ (f : Nat) (g : Int) (kn : List Int) (n : Nat), kn.length = P → g < sp.length → checks P hf cl sp f g kn = some n → ∀ (B : Nat) (pv : Value) (w : World), RdSplits w B pv sp → B ≤ w.heap.size →
    Calls Tryd.prog 25 #[.agg #[.int .i64 fi, pv], .int .i64 g] w fun e w' => e = .returned (sv (bt (treeOf sp f g))) ∧ Below w.heap.size w w' := by
  intro f
  induction f with
  | zero => intro g kn n _ _ h; unfold checks at h; cases h
  | succ f ih =>
    intro g kn n hl hg h B pv w hp hB
    by_cases hgn : g < 0
    · refine specText11_leaf sp fi g f ?_ pv w
      rw [checks_leaf hgn] at h
      by_cases hg1 : g = -1
      · exact .inl hg1
      · split at h
        · rename_i hc
          have := ((close_claim hg1).1 hc).1
          exact .inr ⟨(-2 - g).toNat, by omega, by omega⟩
        · cases h
    · obtain ⟨k, x, y, a, b, hs, hk, _, hx, hy, ha, hb, _⟩ := checks_node (by omega) h
      obtain ⟨G, rfl⟩ := Int.eq_ofNat_of_zero_le (show 0 ≤ g by omega)
      rw [Int.toNat_natCast] at hs
      have hxl : x < sp.length := by rcases nextOk_iff.1 hx with h | h <;> omega
      have hyl : y < sp.length := by rcases nextOk_iff.1 hy with h | h <;> omega
      have hl0 : (kn.set k 0).length = P := by rw [List.length_set]; exact hl
      have hl1 : (kn.set k 1).length = P := by rw [List.length_set]; exact hl
      have s1 := (checks_tree f x (kn.set k 0) a ha).2
      have s2 := (checks_tree f y (kn.set k 1) b hb).2
      have b1 := size_16 h4 hl0 ha
      have b2 := size_16 h4 hl1 hb
      exact specText11_node sp fi G k x y f (by omega) hs (by omega) (by rw [bt_len]; omega) (by rw [bt_len]; omega) B pv w hp hB
        (fun w' hp' hB' => ih x _ a hl0 hxl ha B pv w' hp' hB') (fun w' hp' hB' => ih y _ b hl1 hyl hb B pv w' hp' hB')
end Go.Proofs.YtefmoljipbbmmaaDoor
/- Contract of the reference's ProofText. -/
namespace Go.Proofs.YtefmoljipbbmmaaDoor
open Go.RowKit Go.Joins
/-- the text of a proof, as bytes -/
def tbF (p : Int) (s : List Cl) (ms : List (Int × Int)) (sp : List Sp3) (fi : Int) : List UInt8 := (textF p s ms sp fi).map UInt8.ofNat
theorem tbF_no {p : Int} {s : List Cl} {ms : List (Int × Int)} {sp : List Sp3} {fi : Int} (h : provesF p s ms sp fi = false) : tbF p s ms sp fi = [] := by unfold tbF; rw [textF_no h]; rfl
theorem tbF_yes {p : Int} {s : List Cl} {ms : List (Int × Int)} {sp : List Sp3} {fi : Int} (h : provesF p s ms sp fi = true) : tbF p s ms sp fi = bt (treeOf sp (sp.length + 1) fi) := by unfold tbF; rw [textF_yes h]; rfl
theorem tbF_len {p : Int} {s : List Cl} {ms : List (Int × Int)} {sp : List Sp3} {fi : Int} : (tbF p s ms sp fi).length ≤ 76 := by unfold tbF; rw [List.length_map]; exact textF_len
attribute [local irreducible] holds tabN tabV holdsV sameV followsV alwaysV matterV claimOk mayT mayV ctabV ctabN storyV storyOk storyN storyT ctermV ctermL followsF agreeN agreeB closeB chkN checks nextOk ints hfV clL provesF onceB proofV noneK growR clashF leastU unkN scells findF growT foundS foundG bt treeOf tbF
set_option maxRecDepth 100000 in
set_option maxHeartbeats 4000000 in
theorem specProofText (p fi : Int) (qs : List QC) (ms : List (Int × Int)) (sp : List Sp3) (B : Nat) (v u pv : Value) (w : World) (hr : RdStory w B v qs) (hr' : RdMarks w B u ms) (hp : RdSplits w B pv sp) (hB : B ≤ w.heap.size) :
    Calls Tryd.prog 8 #[.int .i64 p, v, u, .agg #[.int .i64 fi, pv]] w fun e w' => e = .returned (sv (tbF p (qs.map (·.2)) ms sp fi)) ∧ Below w.heap.size w w' := by
  obtain ⟨w2, hw2, f1, f2, hbw, hsz⟩ := new_two w (.int .i64 fi) pv 37
  have hok := specProofOk p fi qs ms sp B v u pv w2 (hr.below (fun q hq => hbw.block q (by omega))) (hr'.below (fun q hq => hbw.block q (by omega))) (hp.below (fun q hq => hbw.block q (by omega))) (by omega)
  obtain ⟨po, pcap, rfl⟩ : ∃ po pcap, pv = .slice po sp.length pcap := by obtain ⟨a, b, h, _⟩ := hp; exact ⟨a, b, h⟩
  have Hp2 := Lib.hid (hp.below (w' := w2) (fun q hq => hbw.block q (by omega)))
  have hgs : w.heap.size < w2.heap.size := hsz
  have Hbw := Lib.hid hbw
  cases ho : provesF p (qs.map (·.2)) ms sp fi with
  | false =>
    rw [ho] at hok
    rw [tbF_no ho]
    have Hok := Lib.hid hok
    clear hok ho hbw hr hr' hp
    generalize hn : sp.length = n at *
    clear hn
    go_enter Tryd.func8, Tryd.ntmps8
    go_upto_region 1 with fail
    rw [← hw2]
    clear hw2
    go_wp2_with fail
    refine Hok.out.mono ?_
    rintro e w3 ⟨rfl, hb3⟩
    have Hb3 := Lib.hid (Hbw.out.trans (hb3.mono (by omega))); clear hb3
    go_wp2
    go_ret
    exact ⟨rfl, Hb3.out⟩
  | true =>
    rw [ho] at hok
    rw [tbF_yes ho]
    have Hok := Lib.hid hok
    obtain ⟨h1, h2, h3⟩ := provesF_iff.1 ho
    obtain ⟨h15, hfi0, hfi1, hch, _⟩ := proofV_iff.1 h3
    have hp4 := pp_of h2
    have htx := fun w hp hB => specText11 p.toNat hp4 (hfV p ms) (clL p (qs.map (·.2))) (by rw [clL_len]; exact (storyOk_iff.1 h1).2.2) sp fi (sp.length + 1) fi (noneK p.toNat) sp.length (noneK_len _) (by omega) hch B (.slice po sp.length pcap) w hp hB
    have Htx := Lib.hid htx
    clear hok ho hbw hr hr' hp h1 h2 h3 hch htx hp4 hfi0 hfi1 h15
    generalize bt (treeOf sp (sp.length + 1) fi) = T at *
    generalize hn : sp.length = n at *
    clear hn
    go_enter Tryd.func8, Tryd.ntmps8
    go_upto_region 1 with fail
    rw [← hw2]
    clear hw2
    go_wp2_with fail
    refine Hok.out.mono ?_
    rintro e w3 ⟨rfl, hb3⟩
    have m1 := (hb3.cell (p := ⟨w.heap.size, 0, none⟩) hgs).trans f1
    have m2 := (hb3.cell (p := ⟨w.heap.size, 1, none⟩) hgs).trans f2
    have hs3 := hb3.size
    have Hp3 := Lib.hid (Hp2.out.below (w' := w3) (fun q hq => hb3.block q (by omega)))
    have Hb3 := Lib.hid (Hbw.out.trans (hb3.mono (by omega)))
    clear hb3 f1 f2
    go_wp2_with fail
    refine (Htx.out _ Hp3.out (by omega)).mono ?_
    rintro e w4 ⟨rfl, hb4⟩
    have Hb4 := Lib.hid (Hb3.out.trans (hb4.mono (by omega))); clear hb4
    go_wp2
    go_ret
    exact ⟨rfl, Hb4.out⟩
end Go.Proofs.YtefmoljipbbmmaaDoor
/- Reading a tree from a text, step by step; without code. -/
namespace Go.Proofs.YtefmoljipbbmmaaDoor
open Go.RowKit
section
variable {f n c : Nat} {r r1 r2 q : List Nat} {a b : PT}
theorem readT_nil : readT (f + 1) [] n = none := rfl
theorem readT_star : readT (f + 1) (42 :: r) n = some (.leaf (-1), r) := by unfold readT; dsimp only; rw [if_pos rfl]
theorem readT_digit (h1 : 48 ≤ c) (h2 : c ≤ 53) : readT (f + 1) (c :: r) n = some (.leaf (-2 - ((c - 48 : Nat) : Int)), r) := by unfold readT; dsimp only; rw [if_neg (by omega), if_pos ⟨h1, h2⟩]
theorem readT_bad (h1 : c ≠ 42) (h2 : ¬ (48 ≤ c ∧ c ≤ 53)) (h3 : ¬ (97 ≤ c ∧ c ≤ 100 ∧ r.head? = some 40 ∧ n < 15)) : readT (f + 1) (c :: r) n = none := by unfold readT; dsimp only; rw [if_neg h1, if_neg h2, if_neg h3]
theorem readT_no {t : PT} (h1 : 97 ≤ c) (_h2 : c ≤ 100) (h : ∀ a r2 b, readT f r1 (n + 1) = some (a, 44 :: r2) → readT f r2 (n + 1 + a.size) = some (b, 41 :: q) → False) : readT (f + 1) (c :: 40 :: r1) n ≠ some (t, q) := by
  intro hh
  obtain ⟨r1', a, r2, b, _, _, e, _, ha, hb, _⟩ := readT_node (by omega) (by omega) hh
  cases e
  exact h a r2 b ha hb
theorem readT_none (h1 : 97 ≤ c) (h2 : c ≤ 100) (h : ∀ a r2 b q, readT f r1 (n + 1) = some (a, 44 :: r2) → readT f r2 (n + 1 + a.size) = some (b, 41 :: q) → False) : readT (f + 1) (c :: 40 :: r1) n = none := by
  cases hr : readT (f + 1) (c :: 40 :: r1) n with
  | none => rfl
  | some x =>
    obtain ⟨t, q⟩ := x
    exact absurd hr (readT_no h1 h2 (fun a r2 b ha hb => h a r2 b q ha hb))
end
/-- a text's signs as numbers -/
def nats8 (s : List UInt8) : List Nat := s.map UInt8.toNat
theorem nats8_drop {s : List UInt8} {k : Nat} (hk : k < s.length) : ∃ c, s.drop k = c :: s.drop (k + 1) ∧ nats8 (s.drop k) = c.toNat :: nats8 (s.drop (k + 1)) ∧ ∀ h', (⟨s.toArray⟩ : ByteArray)[k]'h' = c := by
  refine ⟨s[k], by rw [List.drop_eq_getElem_cons hk], by unfold nats8; rw [List.drop_eq_getElem_cons hk]; rfl, fun h' => ?_⟩
  show s.toArray[k]'(by simpa using hk) = _
  simp
theorem nats8_end {s : List UInt8} {k : Nat} (hk : s.length ≤ k) : nats8 (s.drop k) = [] := by unfold nats8; rw [List.drop_eq_nil_of_le hk]; rfl
theorem nats8_head {s : List UInt8} {k : Nat} (_hk : k < s.length) {c : UInt8} (h : s.drop k = c :: s.drop (k + 1)) (z : Nat) : (nats8 (s.drop k)).head? = some z ↔ c.toNat = z := by
  unfold nats8; rw [h]; simp
end Go.Proofs.YtefmoljipbbmmaaDoor

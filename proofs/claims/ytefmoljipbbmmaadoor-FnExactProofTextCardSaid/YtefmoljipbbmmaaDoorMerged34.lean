/- Texts of a proof, merged: PfT, PfR, PfS, PfQ, ProofI. -/
import Derived.Test.YtefmoljipbbmmaaDoorPfO
import Derived.Test.YtefmoljipbbmmaaDoorMerged20
import Derived.Test.YtefmoljipbbmmaaDoorMerged17
import Derived.Test.YtefmoljipbbmmaaDoorMerged6
import Derived.Deep.RegionLaw
import Derived.Test.YtefmoljipbbmmaaDoorDrawPu
import Derived.Test.YtefmoljipbbmmaaDoorMerged27
/- Contracts of the program's texts of proofs. -/
namespace Go.Proofs.YtefmoljipbbmmaaDoor
open Go.RowKit Go.Joins
attribute [local irreducible] holds tabN tabV holdsV sameV followsV alwaysV matterV claimOk mayT mayV ctabV ctabN storyV storyOk storyN storyT ctermV ctermL followsF agreeN agreeB closeB chkN checks nextOk ints hfV clL provesF onceB proofV noneK growR clashF leastU unkN scells findF growT foundS foundG bt treeOf tbF
set_option maxHeartbeats 400000 in
theorem implLetterOf (k : Nat) (hk : k < 4) (w : World) :
    Calls Tryd.prog 51 #[.int .i64 k] w fun e w' => e = .returned (sv [UInt8.ofNat (97 + k)]) ∧ w = w' := by
  have h : k = 0 ∨ k = 1 ∨ k = 2 ∨ k = 3 := by omega
  clear hk
  rcases h with rfl | rfl | rfl | rfl
  all_goals
    go_enter Tryd.func51, Tryd.ntmps51
    go_wp2
    go_ret
    exact ⟨rfl, rfl⟩
set_option maxRecDepth 100000 in
set_option maxHeartbeats 8000000 in
theorem implCase_leaf (sp : List Sp3) (g : Int) (f : Nat) (hg : g = -1 ∨ ∃ j : Nat, j ≤ 5 ∧ g = -2 - (j : Int)) (pv : Value) (w : World) :
    Calls Tryd.prog 30 #[pv, .int .i64 g] w fun e w' => e = .returned (sv (bt (treeOf sp (f + 1) g))) ∧ Below w.heap.size w w' := by
  rw [tree_leaf (by omega)]
  rcases hg with rfl | ⟨j, hj, rfl⟩
  · rw [bt_goal]
    go_enter Tryd.func30, Tryd.ntmps30
    go_wp2
    go_ret
    exact ⟨rfl, Below.refl _ _⟩
  · rw [bt_claim]
    have hit := itoa (j : Int) (by omega)
    rw [Int.toNat_natCast] at hit
    generalize UInt8.ofNat (48 + j) = c at *
    have Hit := Lib.hid hit; clear hit
    have h6 : j = 0 ∨ j = 1 ∨ j = 2 ∨ j = 3 ∨ j = 4 ∨ j = 5 := by omega
    clear hj
    rcases h6 with rfl | rfl | rfl | rfl | rfl | rfl
    all_goals
      go_enter Tryd.func30, Tryd.ntmps30
      go_wp2_with fail
      refine (Hit.out _).mono ?_
      rintro e w' ⟨rfl, rfl⟩
      go_wp2
      go_ret
      exact ⟨rfl, Below.refl _ _⟩
set_option maxRecDepth 100000 in
set_option maxHeartbeats 16000000 in
theorem implCase_node (sp : List Sp3) (G k : Nat) (x y : Int) (f : Nat) (hG : G < sp.length) (hs : sp.getD G sp0 = ((k : Int), x, y)) (hk : k < 4) (hl1 : (bt (treeOf sp f x)).length ≤ 80) (hl2 : (bt (treeOf sp f y)).length ≤ 80)
    (B : Nat) (pv : Value) (w : World) (hp : RdSplits w B pv sp) (hB : B ≤ w.heap.size)
    (ih1 : ∀ w', RdSplits w' B pv sp → B ≤ w'.heap.size → Calls Tryd.prog 30 #[pv, .int .i64 x] w' fun e w'' => e = .returned (sv (bt (treeOf sp f x))) ∧ Below w'.heap.size w' w'')
    (ih2 : ∀ w', RdSplits w' B pv sp → B ≤ w'.heap.size → Calls Tryd.prog 30 #[pv, .int .i64 y] w' fun e w'' => e = .returned (sv (bt (treeOf sp f y))) ∧ Below w'.heap.size w' w'') :
    Calls Tryd.prog 30 #[pv, .int .i64 (G : Int)] w fun e w' => e = .returned (sv (bt (treeOf sp (f + 1) G))) ∧ Below w.heap.size w w' := by
  rw [tree_node (g := (G : Int)) (by omega) (by rw [Int.toNat_natCast]; exact hs), bt_node]
  have Hp := Lib.hid hp
  obtain ⟨po, pcap, rfl, hple, hpm, _, hpc⟩ := hp
  obtain ⟨pb, poff, rfl, hpb, c1, c2, c3⟩ := hpc G hG
  unfold maxLen at hpm
  rw [hs] at c1 c2 c3
  dsimp only at c1 c2 c3
  have Hlet := Lib.hid (fun w => implLetterOf k hk w)
  generalize UInt8.ofNat (97 + k) = c at *
  have hsz1 : (⟨[c].toArray⟩ : ByteArray).size = 1 := rfl
  have Ih1 := Lib.hid ih1
  have Ih2 := Lib.hid ih2
  clear ih1 ih2 hs hpc
  generalize bt (treeOf sp f x) = M1 at *
  generalize bt (treeOf sp f y) = M2 at *
  have y1 : ¬ 9223372036854775807 < 2 + M1.length := by omega
  have y2 : ¬ 9223372036854775807 < 2 + M1.length + 1 := by omega
  have y3 : ¬ 9223372036854775807 < 2 + M1.length + 1 + M2.length := by omega
  have y4 : ¬ 9223372036854775807 < 2 + M1.length + 1 + M2.length + 1 := by omega
  generalize hn : sp.length = n at *
  have Hn := Lib.hid hn; clear hn
  obtain ⟨wo, rfl⟩ : ∃ wo : World, wo = w := ⟨_, rfl⟩
  go_enter Tryd.func30, Tryd.ntmps30
  go_upto_region 6 with fail
  obtain ⟨w3, hw3, n1, n2, n3, hb3, hs3⟩ := new_three wo (.int .i64 k) (.int .i64 x) (.int .i64 y) 85
  rw [← hw3]
  have Hp3 := Lib.hid (Hp.out.below (w' := w3) (fun q hq => hb3.block q (by omega)))
  have hB3 : B ≤ w3.heap.size := by omega
  have hg2 : wo.heap.size < w3.heap.size := by omega
  have Hb3 := Lib.hid hb3
  clear hw3 hb3 Hp c1 c2 c3 hs3
  go_region_held3 (fun w' => w'.cell? ⟨wo.heap.size, 0, none⟩ = some (.int .i64 k) ∧ w'.cell? ⟨wo.heap.size, 1, none⟩ = some (.int .i64 x) ∧ w'.cell? ⟨wo.heap.size, 2, none⟩ = some (.int .i64 y))
    (first | (refine ⟨?_, ?_, ?_⟩ <;> first | assumption | go_keep) | assumption)
    (first
      | (go_at_call 51
         (with_reducible refine (Hlet.out _).mono ?_)
         rintro e w5 ⟨rfl, rfl⟩
         go_must (skip))
      | (go_at_call 30
         (with_reducible refine (Ih1.out _ ?_ ?_).mono ?_)
         · exact Hp3.out
         · exact hB3
         rintro e w5 ⟨rfl, hb5'⟩
         go_must (have hb5 : Below w3.heap.size w3 w5 := by first | exact hb5' | exact below_undrewS hb5' | exact below_undrewN hb5'
                  have r1 := (hb5.cell (p := ⟨wo.heap.size, 0, none⟩) hg2).trans n1
                  have r2 := (hb5.cell (p := ⟨wo.heap.size, 1, none⟩) hg2).trans n2
                  have r3 := (hb5.cell (p := ⟨wo.heap.size, 2, none⟩) hg2).trans n3
                  have hs5 := hb5.size
                  have Hp5 := Lib.hid (Hp3.out.below (w' := w5) (fun q hq => hb5.block q (by omega)))
                  have hB5 : B ≤ w5.heap.size := by omega
                  have Hb5 := Lib.hid (Hb3.out.trans (hb5.mono (by omega)))
                  clear hb5 hb5'))
      | (go_at_call 30
         (with_reducible refine (Ih2.out _ ?_ ?_).mono ?_)
         · exact Hp5.out
         · exact hB5
         rintro e w6 ⟨rfl, hb6'⟩
         go_must (have hb6 : Below w5.heap.size w5 w6 := by first | exact hb6' | exact below_undrewS hb6' | exact below_undrewN hb6'
                  have t1 := (hb6.cell (p := ⟨wo.heap.size, 0, none⟩) (by show wo.heap.size < w5.heap.size; omega)).trans r1
                  have t2 := (hb6.cell (p := ⟨wo.heap.size, 1, none⟩) (by show wo.heap.size < w5.heap.size; omega)).trans r2
                  have t3 := (hb6.cell (p := ⟨wo.heap.size, 2, none⟩) (by show wo.heap.size < w5.heap.size; omega)).trans r3
                  have Hb6 := Lib.hid (Hb5.out.trans (hb6.mono (by omega)))
                  clear hb6 hb6'))
      | fail)
  go_wp2
  go_ret
  refine ⟨congrArg (fun s => Ending.returned (.string s)) ?_, Hb6.out⟩
  simp [bs_append]
/-- the text of a row of splits that is right from a target on -/
theorem implCase (P : Nat) (h4 : P ≤ 4) (hf : Nat → Bool) (cl : List (Nat → Bool)) (h6 : cl.length ≤ 6) (sp : List Sp3) : ∀ (f : Nat) (g : Int) (kn : List Int) (n : Nat), kn.length = P → g < sp.length → checks P hf cl sp f g kn = some n → ∀ (B : Nat) (pv : Value) (w : World), RdSplits w B pv sp → B ≤ w.heap.size →
    Calls Tryd.prog 30 #[pv, .int .i64 g] w fun e w' => e = .returned (sv (bt (treeOf sp f g))) ∧ Below w.heap.size w w' := by
  intro f
  induction f with
  | zero => intro g kn n _ _ h; unfold checks at h; cases h
  | succ f ih =>
    intro g kn n hl hg h B pv w hp hB
    by_cases hgn : g < 0
    · refine implCase_leaf sp g f ?_ pv w
      rw [checks_leaf hgn] at h
      by_cases hg1 : g = -1
      · exact .inl hg1
      · split at h
        · rename_i hc
          have := ((close_claim hg1).1 hc).1
          exact .inr ⟨(-2 - g).toNat, by omega, by omega⟩
        · cases h
    · obtain ⟨k, x, y, a, b, hs, hk, _, hx, hy, ha, hb, _⟩ := checks_node (by omega) h
      obtain ⟨G, rfl⟩ := Int.eq_ofNat_of_zero_le (show 0 ≤ g by omega)
      rw [Int.toNat_natCast] at hs
      have hxl : x < sp.length := by rcases nextOk_iff.1 hx with h | h <;> omega
      have hyl : y < sp.length := by rcases nextOk_iff.1 hy with h | h <;> omega
      have hl0 : (kn.set k 0).length = P := by rw [List.length_set]; exact hl
      have hl1 : (kn.set k 1).length = P := by rw [List.length_set]; exact hl
      have s1 := (checks_tree f x (kn.set k 0) a ha).2
      have s2 := (checks_tree f y (kn.set k 1) b hb).2
      have b1 := size_16 h4 hl0 ha
      have b2 := size_16 h4 hl1 hb
      exact implCase_node sp G k x y f (by omega) hs (by omega) (by rw [bt_len]; omega) (by rw [bt_len]; omega) B pv w hp hB
        (fun w' hp' hB' => ih x _ a hl0 hxl ha B pv w' hp' hB') (fun w' hp' hB' => ih y _ b hl1 hyl hb B pv w' hp' hB')
set_option maxRecDepth 100000 in
set_option maxHeartbeats 4000000 in
theorem implProofText (p fi : Int) (qs : List QC) (ms : List (Int × Int)) (sp : List Sp3) (B : Nat) (v u pv : Value) (w : World) (hr : RdStory w B v qs) (hr' : RdMarks w B u ms) (hp : RdSplits w B pv sp) (hB : B ≤ w.heap.size) (h64 : I64 fi) :
    Calls Tryd.prog 12 #[.int .i64 p, v, u, .agg #[.int .i64 fi, pv]] w fun e w' => e = .returned (sv (tbF p (qs.map (·.2)) ms sp fi)) ∧ Below w.heap.size w w' := by
  obtain ⟨w2, hw2, f1, f2, hbw, hsz⟩ := new_two w (.int .i64 fi) pv 37
  have hok := implProofOk p fi qs ms sp B v u pv w2 (hr.below (fun q hq => hbw.block q (by omega))) (hr'.below (fun q hq => hbw.block q (by omega))) (hp.below (fun q hq => hbw.block q (by omega))) (by omega) h64
  obtain ⟨po, pcap, rfl⟩ : ∃ po pcap, pv = .slice po sp.length pcap := by obtain ⟨a, b, h, _⟩ := hp; exact ⟨a, b, h⟩
  have Hp2 := Lib.hid (hp.below (w' := w2) (fun q hq => hbw.block q (by omega)))
  have hgs : w.heap.size < w2.heap.size := hsz
  have Hbw := Lib.hid hbw
  cases ho : provesF p (qs.map (·.2)) ms sp fi with
  | false =>
    rw [ho] at hok
    rw [tbF_no ho]
    have Hok := Lib.hid hok
    clear hok ho hbw hr hr' hp
    generalize hn : sp.length = n at *
    clear hn
    go_enter Tryd.func12, Tryd.ntmps12
    go_upto_region 1 with fail
    rw [← hw2]
    clear hw2
    go_wp2_with fail
    refine Hok.out.mono ?_
    rintro e w3 ⟨rfl, hb3⟩
    have Hb3 := Lib.hid (Hbw.out.trans (hb3.mono (by omega))); clear hb3
    go_wp2
    go_ret
    exact ⟨rfl, Hb3.out⟩
  | true =>
    rw [ho] at hok
    rw [tbF_yes ho]
    have Hok := Lib.hid hok
    obtain ⟨h1, h2, h3⟩ := provesF_iff.1 ho
    obtain ⟨h15, hfi0, hfi1, hch, _⟩ := proofV_iff.1 h3
    have hp4 := pp_of h2
    have htx := fun w hp hB => implCase p.toNat hp4 (hfV p ms) (clL p (qs.map (·.2))) (by rw [clL_len]; exact (storyOk_iff.1 h1).2.2) sp (sp.length + 1) fi (noneK p.toNat) sp.length (noneK_len _) (by omega) hch B (.slice po sp.length pcap) w hp hB
    have Htx := Lib.hid htx
    clear hok ho hbw hr hr' hp h1 h2 h3 hch htx hp4 hfi0 hfi1 h15
    generalize bt (treeOf sp (sp.length + 1) fi) = T at *
    generalize hn : sp.length = n at *
    clear hn
    go_enter Tryd.func12, Tryd.ntmps12
    go_upto_region 1 with fail
    rw [← hw2]
    clear hw2
    go_wp2_with fail
    refine Hok.out.mono ?_
    rintro e w3 ⟨rfl, hb3⟩
    have m1 := (hb3.cell (p := ⟨w.heap.size, 0, none⟩) hgs).trans f1
    have m2 := (hb3.cell (p := ⟨w.heap.size, 1, none⟩) hgs).trans f2
    have hs3 := hb3.size
    have Hp3 := Lib.hid (Hp2.out.below (w' := w3) (fun q hq => hb3.block q (by omega)))
    have Hb3 := Lib.hid (Hbw.out.trans (hb3.mono (by omega)))
    clear hb3 f1 f2
    go_wp2_with fail
    refine (Htx.out _ Hp3.out (by omega)).mono ?_
    rintro e w4 ⟨rfl, hb4⟩
    have Hb4 := Lib.hid (Hb3.out.trans (hb4.mono (by omega))); clear hb4
    go_wp2
    go_ret
    exact ⟨rfl, Hb4.out⟩
end Go.Proofs.YtefmoljipbbmmaaDoor
/- The program's reader of proofs: its mathematics, and its small methods. -/
namespace Go.Proofs.YtefmoljipbbmmaaDoor
open Go.RowKit Go.Joins
/-- reading a tree from a text on, of claims of one digit and people of one letter -/
def readU : Nat → List Nat → Option (PT × List Nat)
  | 0, _ => none
  | f + 1, s =>
    match s with
    | [] => none
    | c :: r =>
      if c = 42 then some (.leaf (-1), r)
      else if 48 ≤ c ∧ c ≤ 57 then some (.leaf (-2 - ((c - 48 : Nat) : Int)), r)
      else if 97 ≤ c ∧ c ≤ 122 then
        (if r.head? = some 40 then
          match readU f r.tail with
          | none => none
          | some (a, r2) => if r2.head? = some 44 then
              match readU f r2.tail with
              | none => none
              | some (b, r3) => if r3.head? = some 41 then some (.node (c - 97) a b, r3.tail) else none
            else none
        else none)
      else none
section
variable {f c : Nat} {r r1 r2 q : List Nat} {a b t : PT}
theorem readU_nil : readU (f + 1) [] = none := rfl
theorem readU_star : readU (f + 1) (42 :: r) = some (.leaf (-1), r) := by unfold readU; dsimp only; rw [if_pos rfl]
theorem readU_digit (h1 : 48 ≤ c) (h2 : c ≤ 57) : readU (f + 1) (c :: r) = some (.leaf (-2 - ((c - 48 : Nat) : Int)), r) := by unfold readU; dsimp only; rw [if_neg (by omega), if_pos ⟨h1, h2⟩]
theorem readU_bad (h1 : c ≠ 42) (h2 : ¬ (48 ≤ c ∧ c ≤ 57)) (h3 : ¬ (97 ≤ c ∧ c ≤ 122)) : readU (f + 1) (c :: r) = none := by unfold readU; dsimp only; rw [if_neg h1, if_neg h2, if_neg h3]
/-- what stands behind a letter -/
def tailU (f c : Nat) (r : List Nat) : Option (PT × List Nat) :=
  if r.head? = some 40 then
    match readU f r.tail with
    | none => none
    | some (a, r2) => if r2.head? = some 44 then
        match readU f r2.tail with
        | none => none
        | some (b, r3) => if r3.head? = some 41 then some (.node (c - 97) a b, r3.tail) else none
      else none
  else none
theorem readU_letter (h1 : 97 ≤ c) (h2 : c ≤ 122) : readU (f + 1) (c :: r) = tailU f c r := by unfold readU; dsimp only; rw [if_neg (by omega), if_neg (by omega), if_pos ⟨h1, h2⟩]; rfl
theorem tailU_no1 (h : r.head? ≠ some 40) : tailU f c r = none := by unfold tailU; rw [if_neg h]
theorem tailU_no2 (h : readU f r1 = none) : tailU f c (40 :: r1) = none := by unfold tailU; rw [List.head?_cons, if_pos rfl, List.tail_cons, h]
theorem tailU_no3 (h : readU f r1 = some (a, r2)) (h2 : r2.head? ≠ some 44) : tailU f c (40 :: r1) = none := by unfold tailU; rw [List.head?_cons, if_pos rfl, List.tail_cons, h]; dsimp only; rw [if_neg h2]
theorem tailU_no4 (h : readU f r1 = some (a, 44 :: r2)) (h2 : readU f r2 = none) : tailU f c (40 :: r1) = none := by unfold tailU; rw [List.head?_cons, if_pos rfl, List.tail_cons, h]; dsimp only; rw [List.head?_cons, if_pos rfl, List.tail_cons, h2]
theorem tailU_no5 (h : readU f r1 = some (a, 44 :: r2)) (h2 : readU f r2 = some (b, q)) (h3 : q.head? ≠ some 41) : tailU f c (40 :: r1) = none := by unfold tailU; rw [List.head?_cons, if_pos rfl, List.tail_cons, h]; dsimp only; rw [List.head?_cons, if_pos rfl, List.tail_cons, h2]; dsimp only; rw [if_neg h3]
theorem tailU_yes (h : readU f r1 = some (a, 44 :: r2)) (h2 : readU f r2 = some (b, 41 :: q)) : tailU f c (40 :: r1) = some (.node (c - 97) a b, q) := by unfold tailU; rw [List.head?_cons, if_pos rfl, List.tail_cons, h]; dsimp only; rw [List.head?_cons, if_pos rfl, List.tail_cons, h2]; dsimp only; rw [List.head?_cons, if_pos rfl, List.tail_cons]
end
theorem tailU_of {f c : Nat} {r q : List Nat} {t : PT} (h : tailU f c r = some (t, q)) : ∃ r1 a r2 b, r = 40 :: r1 ∧ readU f r1 = some (a, 44 :: r2) ∧ readU f r2 = some (b, 41 :: q) ∧ t = .node (c - 97) a b := by
  unfold tailU at h
  split at h
  · rename_i h1
    split at h
    · cases h
    · rename_i a r2 ha
      split at h
      · rename_i h2
        split at h
        · cases h
        · rename_i b r3 hb
          split at h
          · rename_i h3
            cases h
            exact ⟨r.tail, a, r2.tail, b, head_cons h1, by rw [ha, ← head_cons h2], by rw [hb, ← head_cons h3], rfl⟩
          · cases h
      · cases h
  · cases h
/-- the text of what is read -/
theorem readU_text : ∀ (f : Nat) (s : List Nat) (t : PT) (q : List Nat), readU f s = some (t, q) → t.text ++ q = s ∧ t.tight = true := by
  intro f
  induction f with
  | zero => intro s t q h; cases h
  | succ f ih =>
    intro s t q h
    cases s with
    | nil => rw [readU_nil] at h; cases h
    | cons c r =>
      by_cases h1 : c = 42
      · subst h1; rw [readU_star] at h; cases h; exact ⟨rfl, rfl⟩
      · by_cases h2 : 48 ≤ c ∧ c ≤ 57
        · rw [readU_digit h2.1 h2.2] at h
          cases h
          refine ⟨?_, ?_⟩
          · rw [PT.text, if_neg (by omega), show 48 + (-2 - (-2 - ((c - 48 : Nat) : Int))).toNat = c by omega]; rfl
          · rw [PT.tight, decide_eq_true_eq]; omega
        · by_cases h3 : 97 ≤ c ∧ c ≤ 122
          · rw [readU_letter h3.1 h3.2] at h
            obtain ⟨r1, a, r2, b, rfl, ha, hb, rfl⟩ := tailU_of h
            obtain ⟨a1, a2⟩ := ih _ _ _ ha
            obtain ⟨b1, b2⟩ := ih _ _ _ hb
            refine ⟨?_, ?_⟩
            · rw [PT.text, ← a1, ← b1, show 97 + (c - 97) = c by omega]; simp
            · rw [PT.tight, a2, b2]; rfl
          · rw [readU_bad h1 h2 h3] at h; cases h
/-- a text of a tree of few claims and few people is read as it -/
theorem text_readU : ∀ (t : PT) (f : Nat) (q : List Nat), t.fine = true → (t.text ++ q).length < f → readU f (t.text ++ q) = some (t, q)
  | .leaf g, f, q, h, hf => by
    obtain ⟨f, rfl⟩ : ∃ f', f = f' + 1 := ⟨f - 1, by omega⟩
    rw [PT.fine, decide_eq_true_eq] at h
    rw [PT.text]
    by_cases hg : g = -1
    · subst hg; rfl
    · rw [if_neg hg]
      show readU (f + 1) ((48 + (-2 - g).toNat) :: q) = _
      rw [readU_digit (by omega) (by omega), show -2 - (((48 + (-2 - g).toNat) - 48 : Nat) : Int) = g by omega]
  | .node k a b, f, q, h, hf => by
    obtain ⟨f, rfl⟩ : ∃ f', f = f' + 1 := ⟨f - 1, by omega⟩
    rw [PT.fine, Bool.and_eq_true, Bool.and_eq_true, decide_eq_true_eq] at h
    have hsz : (PT.node k a b).text ++ q = (97 + k) :: 40 :: (a.text ++ 44 :: (b.text ++ 41 :: q)) := by rw [PT.text]; simp
    rw [hsz] at hf ⊢
    simp only [List.length_cons, List.length_append] at hf
    have ha := text_readU a f (44 :: (b.text ++ 41 :: q)) h.2.1 (by simp only [List.length_cons, List.length_append]; omega)
    have hb := text_readU b f (41 :: q) h.2.2 (by simp only [List.length_cons, List.length_append]; omega)
    rw [readU_letter (by omega) (by omega), tailU_yes ha hb, show 97 + k - 97 = k by omega]
theorem nats8_map (s : List UInt8) : (nats8 s).map UInt8.ofNat = s := by unfold nats8; rw [List.map_map]; exact (List.map_congr_left (fun x _ => show UInt8.ofNat x.toNat = x by simp)).trans (List.map_id' s)
theorem readF_U {p : Int} {s : List Cl} {ms : List (Int × Int)} {bs : List UInt8} (hl : bs.length ≤ 200) : readF p s ms (nats8 bs) = (readU (bs.length + 1) (nats8 bs)).bind fun tq => if tbF p s ms (tq.1.flat 0) (tq.1.tgt 0) = bs then some tq.1 else none := by
  have hlen : (nats8 bs).length = bs.length := by simp [nats8]
  have key : ∀ t, readF p s ms (nats8 bs) = some t → readU (bs.length + 1) (nats8 bs) = some (t, []) ∧ tbF p s ms (t.flat 0) (t.tgt 0) = bs := fun t h => by
    obtain ⟨_, h2, _⟩ := readF_iff.1 h
    obtain ⟨h3, h4, _⟩ := text_read _ _ _ _ _ h2
    have h5 := text_readU t (bs.length + 1) [] h4 (by rw [h3, hlen]; omega)
    rw [h3] at h5
    have h6 := (readF_text h).1
    exact ⟨h5, by unfold tbF; rw [h6, nats8_map]⟩
  cases hu : readU (bs.length + 1) (nats8 bs) with
  | none =>
    cases hr : readF p s ms (nats8 bs) with
    | none => rfl
    | some t => rw [hu] at key; exact absurd (key t hr).1 (by simp)
  | some tq =>
    obtain ⟨t, q⟩ := tq
    show _ = if tbF p s ms (t.flat 0) (t.tgt 0) = bs then some t else none
    by_cases ht : tbF p s ms (t.flat 0) (t.tgt 0) = bs
    · rw [if_pos ht]
      obtain ⟨h1, h2⟩ := readU_text _ _ _ _ hu
      have hp : provesF p s ms (t.flat 0) (t.tgt 0) = true := by
        cases hp : provesF p s ms (t.flat 0) (t.tgt 0) with
        | true => rfl
        | false =>
          rw [tbF_no hp] at ht
          subst ht
          have := congrArg List.length h1
          rw [List.length_append, PT.text_len] at this
          simp [nats8] at this
      have hbt : t.text.map UInt8.ofNat = bs := by
        rw [tbF_yes hp, tree_back h2] at ht; exact ht
      have hq : q = [] := by
        have e1 := congrArg List.length h1
        have e2 := congrArg List.length hbt
        rw [List.length_append, hlen] at e1
        rw [List.length_map] at e2
        exact List.eq_nil_of_length_eq_zero (by omega)
      subst hq
      rw [List.append_nil] at h1
      obtain ⟨p1, p2, _⟩ := provesF_iff.1 hp
      obtain ⟨p4, _, p6⟩ := proves_tree hp
      rw [tree_back h2] at p4
      rw [PT.flat_len] at p6
      have h7 := read_text t 16 0 [] (proves_fine p1 p2 p4) (by omega) (by omega)
      rw [List.append_nil, h1] at h7
      exact readF_iff.2 ⟨by rw [hlen]; exact hl, h7, hp⟩
    · rw [if_neg ht]
      cases hr : readF p s ms (nats8 bs) with
      | none => rfl
      | some t' =>
        obtain ⟨k1, k2⟩ := key t' hr
        rw [hu] at k1
        cases k1
        exact absurd k2 ht
theorem readF_longP {p : Int} {s : List Cl} {ms : List (Int × Int)} {bs : List UInt8} (hl : ¬ bs.length ≤ 200) : readF p s ms (nats8 bs) = none := by
  unfold readF
  rw [if_neg]
  simpa [nats8] using hl
/-! ### small methods -/
theorem news3P {w1 : World} {g : Nat} {a b c : Value} {T : TypeId} {w : World} (h : w1 = w.alloc (.cells #[a, b, c] T)) (hg : g = w.heap.size) : ∀ (j : Nat) (u : Value), ([a, b, c] : List Value)[j]? = some u → w1.cell? ((⟨g, 0, none⟩ : Addr).add j) = some u := by
  intro j u hj
  subst h; subst hg
  rw [add_zero11, cell_of_row _ w.heap.size j _ T (0, 0) (heap_alloc_new w _), ← hj]
  simp
theorem grow_finalP {sp : List Sp3} {k : Nat} {a b : PT} : (sp ++ [((k : Int), 0, 0)] ++ a.flat (sp ++ [((k : Int), (0 : Int), (0 : Int))]).length ++ b.flat (sp ++ [((k : Int), (0 : Int), (0 : Int))] ++ a.flat (sp ++ [((k : Int), (0 : Int), (0 : Int))]).length).length).set sp.length ((k : Int), a.tgt (sp ++ [((k : Int), (0 : Int), (0 : Int))]).length, b.tgt (sp ++ [((k : Int), (0 : Int), (0 : Int))] ++ a.flat (sp ++ [((k : Int), (0 : Int), (0 : Int))]).length).length) = sp ++ (PT.node k a b).flat sp.length := by
  have h1 : (sp ++ [((k : Int), (0 : Int), (0 : Int))]).length = sp.length + 1 := by simp
  have h2 : (sp ++ [((k : Int), (0 : Int), (0 : Int))] ++ a.flat (sp ++ [((k : Int), (0 : Int), (0 : Int))]).length).length = sp.length + 1 + a.size := by rw [List.length_append, PT.flat_len, h1]
  rw [h2, h1]
  have e : sp ++ [((k : Int), (0 : Int), (0 : Int))] ++ a.flat (sp.length + 1) ++ b.flat (sp.length + 1 + a.size) = sp ++ ((k : Int), (0 : Int), (0 : Int)) :: (a.flat (sp.length + 1) ++ b.flat (sp.length + 1 + a.size)) := by simp
  rw [e, set_at rfl]
  rfl
theorem scells_oneP (a b c : Int) : scells [(a, b, c)] = [.int .i64 a, .int .i64 b, .int .i64 c] := rfl
theorem ext_tailP (c : UInt8) (r : List UInt8) : (⟨(c :: r).toArray⟩ : ByteArray).extract 1 (r.length + 1) = ⟨r.toArray⟩ := by
  apply ByteArray.ext
  simp
theorem ext_headP (c : UInt8) (r : List UInt8) : (⟨(c :: r).toArray⟩ : ByteArray).extract 0 1 = ⟨[c].toArray⟩ := by
  apply ByteArray.ext
  simp
theorem toList_oneP (c : UInt8) : (⟨[c].toArray⟩ : ByteArray).toList = [c] := by
  first | rfl | simp | (unfold ByteArray.toList; rfl)
theorem head_toListP (c : UInt8) (r : List UInt8) : ((⟨(c :: r).toArray⟩ : ByteArray).extract 0 1).toList = [c] := by rw [ext_headP, toList_oneP]
set_option maxRecDepth 100000 in
set_option maxHeartbeats 1000000 in
theorem cutYesP (c : UInt8) (r : List UInt8) (hl : r.length ≤ 1000) (w : World) :
    Calls Tryd.prog 76 #[sv (c :: r), sv [c]] w fun e w' => e = .returned (.tuple #[sv r, .bool true]) ∧ w = w' := by
  have h1 := head_toListP c r
  have h2 := ext_tailP c r
  go_enter Tryd.func76, Tryd.ntmps76
  go_wp2
  go_ret2
  exact ⟨rfl, rfl⟩
set_option maxRecDepth 100000 in
set_option maxHeartbeats 1000000 in
theorem cutNoP (c d : UInt8) (hcd : c ≠ d) (r : List UInt8) (hl : r.length ≤ 1000) (w : World) :
    Calls Tryd.prog 76 #[sv (c :: r), sv [d]] w fun e w' => e = .returned (.tuple #[sv (c :: r), .bool false]) ∧ w = w' := by
  have h1 := head_toListP c r
  have h3 : (([c] : List UInt8) == [d]) = false := by simp [hcd]
  go_enter Tryd.func76, Tryd.ntmps76
  go_wp2
  go_ret2
  exact ⟨rfl, rfl⟩
set_option maxRecDepth 100000 in
set_option maxHeartbeats 1000000 in
theorem cutNilP (d : UInt8) (w : World) :
    Calls Tryd.prog 76 #[sv [], sv [d]] w fun e w' => e = .returned (.tuple #[sv [], .bool false]) ∧ w = w' := by
  go_enter Tryd.func76, Tryd.ntmps76
  go_wp2
  go_ret2
  exact ⟨rfl, rfl⟩
set_option maxRecDepth 100000 in
set_option maxHeartbeats 1000000 in
theorem tookYesP (c : UInt8) (r : List UInt8) (hl : r.length ≤ 1000) (R : Nat) (v : Value) (w : World) (h : Box w R (sv (c :: r)) v) :
    Calls Tryd.prog 68 #[.pointer (some ⟨R, 0, none⟩), sv [c]] w fun e w' => e = .returned (.bool true) ∧ Box w' R (sv r) v ∧ w.grownBy w' (some R) := by
  obtain ⟨w', hw', hx, hg⟩ := h.set0 (sv r)
  rw [hw'] at hx hg
  have Hx := Lib.hid hx
  have Hg := Lib.hid hg
  obtain ⟨x1, x2, x3, x4, x5⟩ := h
  have hcut := cutYesP c r hl
  clear hw' hx hg
  go_enter Tryd.func68, Tryd.ntmps68
  go_wp2_with fail
  refine (hcut _).mono ?_
  rintro e w' ⟨rfl, rfl⟩
  go_wp2
  go_ret
  exact ⟨rfl, Hx.out, Hg.out⟩
set_option maxRecDepth 100000 in
set_option maxHeartbeats 1000000 in
theorem tookNoP (d : UInt8) (s : List UInt8) (hs : s.head? ≠ some d) (hl : s.length ≤ 1000) (R : Nat) (v : Value) (w : World) (h : Box w R (sv s) v) :
    Calls Tryd.prog 68 #[.pointer (some ⟨R, 0, none⟩), sv [d]] w fun e w' => e = .returned (.bool false) ∧ w.grownBy w' (some R) := by
  have hcut : ∀ w, Calls Tryd.prog 76 #[sv s, sv [d]] w fun e w' => e = .returned (.tuple #[sv s, .bool false]) ∧ w = w' := by
    cases s with
    | nil => exact fun w => cutNilP d w
    | cons c r => exact fun w => cutNoP c d (fun e => hs (by rw [e]; rfl)) r (by simp at hl; omega) w
  obtain ⟨w', hw', hx, hg⟩ := h.set0 (sv s)
  rw [hw'] at hx hg
  have Hg := Lib.hid hg
  obtain ⟨x1, x2, x3, x4, x5⟩ := h
  clear hs hw' hx hg
  go_enter Tryd.func68, Tryd.ntmps68
  go_wp2_with fail
  refine (hcut _).mono ?_
  rintro e w' ⟨rfl, rfl⟩
  go_wp2
  go_ret
  exact ⟨rfl, Hg.out⟩
set_option maxRecDepth 100000 in
set_option maxHeartbeats 1000000 in
theorem takeNilP (R : Nat) (v : Value) (w : World) (h : Box w R (sv []) v) :
    Calls Tryd.prog 53 #[.pointer (some ⟨R, 0, none⟩)] w fun e w' => e = .returned (.tuple #[.int .u8 0, .bool false]) ∧ w = w' := by
  obtain ⟨x1, x2, x3, x4, x5⟩ := h
  go_enter Tryd.func53, Tryd.ntmps53
  go_wp2
  go_ret2
  exact ⟨rfl, rfl⟩
set_option maxRecDepth 100000 in
set_option maxHeartbeats 1000000 in
theorem takeOneP (c : UInt8) (r : List UInt8) (hl : r.length ≤ 1000) (R : Nat) (v : Value) (w : World) (h : Box w R (sv (c :: r)) v) :
    Calls Tryd.prog 53 #[.pointer (some ⟨R, 0, none⟩)] w fun e w' => e = .returned (.tuple #[.int .u8 c.toNat, .bool true]) ∧ Box w' R (sv r) v ∧ w.grownBy w' (some R) := by
  obtain ⟨w', hw', hx, hg⟩ := h.set0 (sv r)
  rw [hw'] at hx hg
  have Hx := Lib.hid hx
  have Hg := Lib.hid hg
  obtain ⟨x1, x2, x3, x4, x5⟩ := h
  have hget : ∀ h', (⟨(c :: r).toArray⟩ : ByteArray)[0]'h' = c := fun _ => rfl
  have h1 := head_toListP c r
  have h2 := ext_tailP c r
  clear hw' hx hg
  go_enter Tryd.func53, Tryd.ntmps53
  go_wp2
  go_ret2
  exact ⟨rfl, Hx.out, Hg.out⟩
end Go.Proofs.YtefmoljipbbmmaaDoor
/- Contracts of the program's reader of proofs. -/
namespace Go.Proofs.YtefmoljipbbmmaaDoor
open Go.RowKit Go.Joins
/-- what a reader changes: its own block, the row's, and what is new; where the row lies then -/
def K3 (a b : World) (R : Nat) (rb rb' : Option Nat) : Prop := b.os = a.os ∧ b.tape = a.tape ∧ b.output = a.output ∧ a.heap.size ≤ b.heap.size ∧ (∀ k, k < a.heap.size → k ≠ R → rb ≠ some k → b.heap[k]? = a.heap[k]?) ∧ ∀ k, rb' = some k → rb = some k ∨ a.heap.size ≤ k
theorem K3.trans {a b c : World} {R : Nat} {r0 r1 r2 : Option Nat} (h : K3 a b R r0 r1) (k : K3 b c R r1 r2) : K3 a c R r0 r2 := by
  obtain ⟨h1, h2, h3, h4, h5, h6⟩ := h
  obtain ⟨k1, k2, k3, k4, k5, k6⟩ := k
  refine ⟨k1.trans h1, k2.trans h2, k3.trans h3, Nat.le_trans h4 k4, fun i hi hR hr => (k5 i (by omega) hR fun e => ?_).trans (h5 i hi hR hr), fun i hi => ?_⟩
  · rcases h6 i e with h | h
    · exact hr h
    · omega
  · rcases k6 i hi with h | h
    · exact h6 i h
    · right; omega
theorem K3.own {w w' : World} {R : Nat} (hg : w.grownBy w' (some R)) (rb : Option Nat) : K3 w w' R rb rb := ⟨hg.os, hg.tape, hg.output, hg.size, fun k hk hR _ => hg.block k hk (fun e => hR (by cases e; rfl)), fun _ h => .inl h⟩
theorem K3.row {w w' : World} {R : Nat} {rb rb' : Option Nat} (hg : w.grownBy w' rb) (h : rb' = rb ∨ rb' = some w.heap.size) : K3 w w' R rb rb' := ⟨hg.os, hg.tape, hg.output, hg.size, fun k hk _ hr => hg.block k hk (fun e => hr e.symm), fun k hk => by
  rcases h with h | h
  · left; rw [← h]; exact hk
  · right; rw [h] at hk; cases hk; exact Nat.le_refl _⟩
theorem K3.alloc {w : World} (o : Obj) (R : Nat) (rb : Option Nat) : K3 w (w.alloc o) R rb rb := ⟨rfl, rfl, rfl, by simp, fun k hk _ _ => Below.heap_alloc w o k hk, fun _ h => .inl h⟩
theorem K3.below {a b : World} {R S : Nat} {rb rb' : Option Nat} (h : K3 a b R rb rb') (hR : S ≤ R) (hRa : R < a.heap.size) (hr : ∀ k, rb = some k → S ≤ k) : Below S a b := ⟨h.1, h.2.1, h.2.2.1, h.2.2.2.1, fun k hk => h.2.2.2.2.1 k (by omega) (by omega) (fun e => by have := hr k e; omega)⟩
theorem K3.at {a b : World} {R k : Nat} {rb rb' : Option Nat} (h : K3 a b R rb rb') (hk : k < a.heap.size) (hR : k ≠ R) (hr : rb ≠ some k) : b.heap[k]? = a.heap[k]? := h.2.2.2.2.1 k hk hR hr
theorem K3.ne {a b : World} {R k : Nat} {rb rb' : Option Nat} (h : K3 a b R rb rb') (hk : k < a.heap.size) (hr : rb ≠ some k) : rb' ≠ some k := fun e => by
  rcases h.2.2.2.2.2 k e with h | h
  · exact hr h
  · omega
theorem K3.size {a b : World} {R : Nat} {r0 r1 : Option Nat} (h : K3 a b R r0 r1) : a.heap.size ≤ b.heap.size := h.2.2.2.1
theorem K3.drew {a b : World} {R : Nat} {r0 r1 : Option Nat} (h : K3 a b R r0 r1) (n : Nat) : K3 a (b.drewN n) R r0 r1 := h
theorem K3.new {a b : World} {R V i : Nat} {r0 r1 : Option Nat} (h : K3 a b R r0 r1) (hV : a.heap.size ≤ V) (z : Value) : K3 a (b.setCell ⟨V, i, none⟩ z) R r0 r1 :=
  ⟨h.1, h.2.1, h.2.2.1, by simpa [World.setCell] using h.2.2.2.1, fun k hk hR hr => (Below.heap_setCell b ⟨V, i, none⟩ z k (by simp; omega)).trans (h.2.2.2.2.1 k hk hR hr), h.2.2.2.2.2⟩
/-- the reader: what is still to be read, and the splits in a row of their own -/
def RdSt (w : World) (S R : Nat) (s : List UInt8) (sp : List Sp3) (v : Value) : Prop := S ≤ R ∧ Box w R (sv s) v ∧ w.ownsRow S TSp 3 v sp.length (scells sp) ∧ v.ownBlock ≠ some R
theorem RdSt.took {w w' : World} {S R : Nat} {s r : List UInt8} {sp : List Sp3} {v : Value} (h : RdSt w S R s sp v) (hx : Box w' R (sv r) v) (hg : w.grownBy w' (some R)) : RdSt w' S R r sp v := by
  refine ⟨h.1, hx, ?_, h.2.2.2⟩
  refine h.2.2.1.kept hg ?_
  cases hv : v.ownBlock with
  | none => exact .inl rfl
  | some k => right; intro e; exact h.2.2.2 (by rw [hv, e])
theorem RdSt.lt {w : World} {S R : Nat} {s : List UInt8} {sp : List Sp3} {v : Value} (h : RdSt w S R s sp v) : R < w.heap.size := h.2.1.2.2.2.2
theorem RdSt.rows {w : World} {S R : Nat} {s : List UInt8} {sp : List Sp3} {v : Value} (h : RdSt w S R s sp v) : ∀ k, v.ownBlock = some k → S ≤ k := fun k hk => (h.2.2.1.lt k hk).1
theorem RdSt.drew {w : World} {S R : Nat} {s : List UInt8} {sp : List Sp3} {v : Value} (h : RdSt w S R s sp v) (n : Nat) : RdSt (w.drewN n) S R s sp v := h
def CaseOut (S R nb ni : Nat) (sp : List Sp3) (v : Value) (o : Option (PT × List Nat)) (w : World) (e : Ending) (w' : World) : Prop :=
  (∃ (t : PT) (q : List UInt8) (v' : Value), o = some (t, nats8 q) ∧ e = .returned (.bool true) ∧ RdSt w' S R q (sp ++ t.flat sp.length) v' ∧ K3 (w.setCell ⟨nb, ni, none⟩ (.int .i64 (t.tgt sp.length))) w' R v.ownBlock v'.ownBlock) ∨ (o = none ∧ e = .returned (.bool false) ∧ Below S w w')
def SplitOut (S R : Nat) (sp : List Sp3) (v : Value) (o : Option (PT × List Nat)) (w : World) (e : Ending) (w' : World) : Prop :=
  (∃ (t : PT) (q : List UInt8) (v' : Value), o = some (t, nats8 q) ∧ e = .returned (.bool true) ∧ t.tgt sp.length = sp.length ∧ RdSt w' S R q (sp ++ t.flat sp.length) v' ∧ K3 w w' R v.ownBlock v'.ownBlock) ∨ (o = none ∧ e = .returned (.bool false) ∧ Below S w w')
theorem CaseOut.yes {S R nb ni : Nat} {sp : List Sp3} {v v' : Value} {o : Option (PT × List Nat)} {w w' : World} {t : PT} {q : List UInt8} (h1 : o = some (t, nats8 q)) (h2 : RdSt w' S R q (sp ++ t.flat sp.length) v') (h3 : K3 (w.setCell ⟨nb, ni, none⟩ (.int .i64 (t.tgt sp.length))) w' R v.ownBlock v'.ownBlock) : CaseOut S R nb ni sp v o w (.returned (.bool true)) w' := .inl ⟨t, q, v', h1, rfl, h2, h3⟩
theorem CaseOut.no {S R nb ni : Nat} {sp : List Sp3} {v : Value} {o : Option (PT × List Nat)} {w w' : World} (h1 : o = none) (h2 : Below S w w') : CaseOut S R nb ni sp v o w (.returned (.bool false)) w' := .inr ⟨h1, rfl, h2⟩
theorem SplitOut.yes {S R : Nat} {sp : List Sp3} {v v' : Value} {o : Option (PT × List Nat)} {w w' : World} {t : PT} {q : List UInt8} (h1 : o = some (t, nats8 q)) (h0 : t.tgt sp.length = sp.length) (h2 : RdSt w' S R q (sp ++ t.flat sp.length) v') (h3 : K3 w w' R v.ownBlock v'.ownBlock) : SplitOut S R sp v o w (.returned (.bool true)) w' := .inl ⟨t, q, v', h1, rfl, h0, h2, h3⟩
theorem SplitOut.no {S R : Nat} {sp : List Sp3} {v : Value} {o : Option (PT × List Nat)} {w w' : World} (h1 : o = none) (h2 : Below S w w') : SplitOut S R sp v o w (.returned (.bool false)) w' := .inr ⟨h1, rfl, h2⟩
theorem CaseOut.out {S R nb ni : Nat} {sp : List Sp3} {v : Value} {o : Option (PT × List Nat)} {w w' : World} {e : Ending} (h : CaseOut S R nb ni sp v o w e w') : (∃ (t : PT) (q : List UInt8) (v' : Value), o = some (t, nats8 q) ∧ e = .returned (.bool true) ∧ RdSt w' S R q (sp ++ t.flat sp.length) v' ∧ K3 (w.setCell ⟨nb, ni, none⟩ (.int .i64 (t.tgt sp.length))) w' R v.ownBlock v'.ownBlock) ∨ (o = none ∧ e = .returned (.bool false) ∧ Below S w w') := h
theorem SplitOut.out {S R : Nat} {sp : List Sp3} {v : Value} {o : Option (PT × List Nat)} {w w' : World} {e : Ending} (h : SplitOut S R sp v o w e w') : (∃ (t : PT) (q : List UInt8) (v' : Value), o = some (t, nats8 q) ∧ e = .returned (.bool true) ∧ t.tgt sp.length = sp.length ∧ RdSt w' S R q (sp ++ t.flat sp.length) v' ∧ K3 w w' R v.ownBlock v'.ownBlock) ∨ (o = none ∧ e = .returned (.bool false) ∧ Below S w w') := h
def ReadC (F f : Nat) : Prop := ∀ (s : List UInt8) (sp : List Sp3) (v : Value) (S R nb ni : Nat) (w : World), s.length < f → sp.length + s.length ≤ 400 → RdSt w S R s sp v → nb ≠ R → v.ownBlock ≠ some nb → S ≤ nb → nb < w.heap.size → (∃ z, w.cell? ⟨nb, ni, none⟩ = some (.int .i64 z)) → w.frozen? ⟨nb, ni, none⟩ = false →
  Calls Tryd.prog F #[.pointer (some ⟨R, 0, none⟩), .pointer (some ⟨nb, ni, none⟩)] w (CaseOut S R nb ni sp v (readU f (nats8 s)) w)
def SplitC (F f : Nat) : Prop := ∀ (c : Nat) (r : List UInt8) (sp : List Sp3) (v : Value) (S R : Nat) (w : World), 97 ≤ c → c ≤ 122 → r.length < f → sp.length + r.length ≤ 400 → RdSt w S R r sp v →
  Calls Tryd.prog F #[.pointer (some ⟨R, 0, none⟩), .int .i64 ((c : Int) - 97)] w (SplitOut S R sp v (tailU f c (nats8 r)) w)
theorem nats8_cons (c : UInt8) (r : List UInt8) : nats8 (c :: r) = c.toNat :: nats8 r := rfl
theorem nats8_lenP (s : List UInt8) : (nats8 s).length = s.length := by simp [nats8]
theorem readU_len {f : Nat} {s q : List UInt8} {t : PT} (h : readU f (nats8 s) = some (t, nats8 q)) : 5 * t.size + 1 + q.length = s.length := by
  have := congrArg List.length (readU_text _ _ _ _ h).1
  rw [List.length_append, PT.text_len, nats8_lenP, nats8_lenP] at this
  exact this
theorem nats8_hd {s : List UInt8} {d : UInt8} (h : s.head? ≠ some d) : (nats8 s).head? ≠ some d.toNat := by
  cases s with
  | nil => simp [nats8]
  | cons c r =>
    intro e
    have e1 : c.toNat = d.toNat := by simpa [nats8] using e
    exact h (by rw [UInt8.toNat_inj.1 e1]; rfl)
theorem hd_cons {s : List UInt8} {d : UInt8} (h : s.head? = some d) : ∃ r, s = d :: r := by
  cases s with
  | nil => cases h
  | cons c r => simp at h; exact ⟨r, by rw [h]⟩
attribute [local irreducible] CaseOut SplitOut scells readU tailU nats8 RdSt K3
set_option maxRecDepth 100000 in
set_option maxHeartbeats 16000000 in
theorem readSplit_step (f : Nat) (ih : ReadC 35 f) : SplitC 54 f := by
  intro c r sp v S R w hc1 hc2 hrf hsl hst
  obtain ⟨k, rfl⟩ : ∃ k, c = 97 + k := ⟨c - 97, by omega⟩
  have hck : ((97 + k : Nat) : Int) - 97 = (k : Int) := by omega
  rw [hck]
  unfold ReadC at ih
  have Ih := Lib.hid ih
  have Hst := Lib.hid hst
  have hst' := hst
  unfold RdSt at hst'
  obtain ⟨hSR, hx, hown, hne⟩ := hst'
  have HX := Lib.hid hx
  have HO := Lib.hid hown
  have HN := Lib.hid hne
  have HROW := Lib.hid hst.rows
  have hRl := hst.lt
  obtain ⟨vo, vc, rfl⟩ := own_len hown
  obtain ⟨ii, hii, hz0, hz1, hz2⟩ := info_parts Tryd.infoSp
  have Ii := Lib.hid hii
  have Iz0 := Lib.hid hz0
  have Iz1 := Lib.hid hz1
  have Iz2 := Lib.hid hz2
  obtain ⟨x1, x2, x3, x4, x5⟩ := hx
  obtain ⟨w1, hw1, hv1, hb1, hs1⟩ := Box3.new w (.int .i64 k) (.int .i64 0) (.int .i64 0) 85
  have HV1 := Lib.hid hv1
  have hx1 := HX.out.below hb1
  have HX1 := Lib.hid hx1
  have HO1 := Lib.hid (own_below HO.out hb1)
  have HK1 : Hid (K3 w w1 R (Value.slice vo sp.length vc).ownBlock (Value.slice vo sp.length vc).ownBlock) := by rw [hw1]; exact K3.alloc _ _ _
  have hVne : (Value.slice vo sp.length vc).ownBlock ≠ some w.heap.size := fun e => by have := (HO.out.lt _ e).2; omega
  have HVne := Lib.hid hVne
  have hRV : ¬ w.heap.size = R := by omega
  have hlt1 : w.heap.size < w1.heap.size := by omega
  have hR1 : R < w1.heap.size := by omega
  have hk26 : k ≤ 25 := by omega
  have HL := Lib.hid hsl
  have hn400 : sp.length ≤ 400 := by omega
  clear hst hown hne hii hz0 hz1 hz2 hb1 hs1 ih hck hsl hVne
  generalize hn : sp.length = n at *
  have Hn := Lib.hid hn; clear hn
  obtain ⟨wo, rfl⟩ : ∃ wo : World, wo = w := ⟨_, rfl⟩
  go_enter Tryd.func54, Tryd.ntmps54
  go_upto_region 2 with fail
  rw [← hw1]
  clear hw1 x1 x2 x3 x4 x5
  have Hnews := Lib.hid (news3P (w := w1) (g := w1.heap.size) (a := .int .i64 k) (b := .int .i64 0) (c := .int .i64 0) (T := TSp) rfl rfl)
  obtain ⟨x1, x2, x3, x4, x5⟩ := hx1
  obtain ⟨y1, y2, y3, y4, y5, y6, y7⟩ := hv1
  go_cut [] from 7 (fun wr => ∃ (f2 : Option Addr) (c2 : Nat), RdSt wr S R r (sp ++ [((k : Int), 0, 0)]) (.slice f2 (n + 1) c2) ∧ Box3 wr wo.heap.size (.int .i64 k) (.int .i64 0) (.int .i64 0) ∧ K3 wo wr R (Value.slice vo n vc).ownBlock (Value.slice f2 (n + 1) c2).ownBlock ∧ (Value.slice f2 (n + 1) c2).ownBlock ≠ some wo.heap.size)
  case first =>
    go_region_law
      (first
        | (refine app_own (by rfl) (.tmp 18) (.tmp 20) 35 TSp S 3 24 (.agg #[.int .i64 0, .int .i64 0, .int .i64 0]) (by rfl) Tryd.underlying35 Ii.out Iz0.out Iz1.out Iz2.out rfl (by decide) (by rfl) (by rfl) (by first | exact HO1.out.alloc _ | exact own_drewU (HO1.out.alloc _) _) (m := 1) (news := [.int .i64 k, .int .i64 0, .int .i64 0]) (by rfl) (by exact Hnews.out) (by simp [Value.oneCell']) (by unfold maxLen; omega) (by omega) (by simp; omega) ?_
           go_must (intro v2 w2 hown2 hgr2 hat2
                    have hgr : (w1.alloc (.cells #[.int .i64 k, .int .i64 0, .int .i64 0] TSp)).grownBy w2 (Value.slice vo n vc).ownBlock := by first | exact hgr2 | exact grownBy_drew0 hgr2 | exact grownBy_drewX hgr2
                    have hat : v2.ownBlock = (Value.slice vo n vc).ownBlock ∨ v2.ownBlock = some (w1.alloc (.cells #[.int .i64 k, .int .i64 0, .int .i64 0] TSp)).heap.size := by first | exact hat2 | simpa using hat2
                    obtain ⟨f2, c2, hv2⟩ := own_len hown2
                    subst hv2
                    have hx2 := (HX1.out.alloc (.cells #[.int .i64 k, .int .i64 0, .int .i64 0] TSp)).grown hgr HN.out
                    have HX2 := Lib.hid hx2
                    have HV2 := Lib.hid ((HV1.out.alloc (.cells #[.int .i64 k, .int .i64 0, .int .i64 0] TSp)).grown hgr HVne.out)
                    have hk2 := (HK1.out.trans (K3.alloc (.cells #[.int .i64 k, .int .i64 0, .int .i64 0] TSp) R _)).trans (K3.row hgr hat)
                    have HK2 := Lib.hid hk2
                    have HN2 := Lib.hid (hk2.ne hRl HN.out)
                    have HVne2 : Hid ((Value.slice f2 (n + 1) c2).ownBlock ≠ some wo.heap.size) := by
                      unfold Hid; intro e
                      rcases hat with h | h
                      · exact HVne.out (by rw [← h]; exact e)
                      · rw [h] at e; have := Option.some.inj e; simp at this; omega
                    have HO2 := Lib.hid hown2
                    obtain ⟨p1, p2, p3, p4, p5⟩ := hx2
                    clear hown2 hgr2 hgr hat2 hat hk2))
        | fail)
    all_goals
      obtain ⟨w3, hw3, hx3, hg3⟩ := HX2.out.set1 (.slice f2 (n + 1) c2)
      rw [← hw3]
      have hk3 := HK2.out.trans (K3.own hg3 _)
      have hv3 := HV2.out.grown hg3 (by intro e; cases e; exact hRV rfl)
      have ho3 := HO2.out.kept hg3 (by
        cases hv : (Value.slice f2 (n + 1) c2).ownBlock with
        | none => exact .inl rfl
        | some q => right; intro e; exact HN2.out (by rw [hv, e]))
      rw [← scells_oneP, ← scells_append] at ho3
      have HF := Lib.hid (show ∃ (f2 : Option Addr) (c2 : Nat), RdSt w3 S R r (sp ++ [((k : Int), 0, 0)]) (.slice f2 (n + 1) c2) ∧ Box3 w3 wo.heap.size (.int .i64 k) (.int .i64 0) (.int .i64 0) ∧ K3 wo w3 R (Value.slice vo n vc).ownBlock (Value.slice f2 (n + 1) c2).ownBlock ∧ (Value.slice f2 (n + 1) c2).ownBlock ≠ some wo.heap.size from
        ⟨f2, c2, by unfold RdSt; exact ⟨hSR, hx3, by rw [List.length_append, Hn.out]; exact ho3, HN2.out⟩, hv3, hk3, HVne2.out⟩)
      clear hw3 hx3 hg3 hk3 hv3 ho3 p1 p2 p3 p4 p5
      go_wp2
      go_meet
      case rel => exact HF.out
  case rest =>
    obtain ⟨f2, c2, hst2, hv2, hk2, hvn2⟩ := hcut
    have HL' := Lib.hid (show n + r.length ≤ 400 by have := HL.out; omega)
    have hSV : S ≤ wo.heap.size := by omega
    have hVw : wo.heap.size < wc.heap.size := hv2.lt
    have hx2 : Box wc R (sv r) (.slice f2 (n + 1) c2) := by unfold RdSt at hst2; exact hst2.2.1
    have HK2 := Lib.hid hk2
    have HV2 := Lib.hid hv2
    have HST2 := Lib.hid hst2
    have hr1000 : r.length ≤ 1000 := by have := HL'.out; omega
    clear x1 x2 x3 x4 x5 y1 y2 y3 y4 y5 y6 y7 Hnews HK1 HO1 HX1 HV1 HVne HN HO HX hst2 hv2 hk2 HL hr1000 hlt1 hR1
    by_cases h40 : r.head? = some 40
    case neg =>
      have hU : tailU f (97 + k) (nats8 r) = none := tailU_no1 (nats8_hd h40)
      have Ht := Lib.hid (tookNoP 40 r h40 (by have := HL'.out; omega) R _ wc hx2)
      have HU := Lib.hid hU
      clear hx2 hU h40
      go_wp2_with fail
      refine Ht.out.mono ?_
      rintro e w3 ⟨rfl, hg3⟩
      have Hb := Lib.hid ((HK2.out.trans (K3.own hg3 (Value.slice f2 (n + 1) c2).ownBlock)).below hSR hRl HROW.out)
      go_wp2
      go_ret
      exact SplitOut.no HU.out Hb.out
    obtain ⟨r1, rfl⟩ := hd_cons h40
    have Hl1 := Lib.hid (show n + 1 + r1.length ≤ 400 by have := HL'.out; simp only [List.length_cons] at this; omega)
    have Hf1 := Lib.hid (show r1.length < f by simp only [List.length_cons] at hrf; omega)
    have Ht := Lib.hid (tookYesP 40 r1 (by have := Hl1.out; omega) R _ wc hx2)
    clear hx2 h40 hrf HL'
    go_wp2_with fail
    refine Ht.out.mono ?_
    rintro e w3 ⟨rfl, hx3, hg3⟩
    have hst3 := HST2.out.took hx3 hg3
    have HST3 := Lib.hid hst3
    have hk3 := HK2.out.trans (K3.own hg3 (Value.slice f2 (n + 1) c2).ownBlock)
    have HK3 := Lib.hid hk3
    have hv3 := HV2.out.grown hg3 (by intro e; cases e; exact hRV rfl)
    have HV3 := Lib.hid hv3
    have hV3 := hv3.lt
    obtain ⟨hv3a, hg3a⟩ := hv3.set1 (.int .i64 0)
    have hc := Ih.out r1 (sp ++ [((k : Int), 0, 0)]) (.slice f2 (n + 1) c2) S R wo.heap.size 1 w3 Hf1.out (by rw [List.length_append, Hn.out]; exact Hl1.out) hst3 hRV hvn2 hSV hV3 ⟨0, hv3.2.1⟩ hv3.2.2.2.2.1
    have Hc := Lib.hid hc
    clear hst3 hk3 hv3 hc hx3 hg3 Ht HST2 HK2 HV2 hv3a hg3a
    go_wp2_with fail
    refine Hc.out.mono ?_
    intro e w4 hout
    rcases hout.out with ⟨a, q1, v4, hu1, rfl, hst4, hk4⟩ | ⟨hu1, rfl, hb4⟩
    case inr =>
      have hU : tailU f (97 + k) (nats8 (40 :: r1)) = none := by rw [nats8_cons]; exact tailU_no2 hu1
      have HU := Lib.hid hU
      have Hb := Lib.hid ((HK3.out.below hSR hRl HROW.out).trans hb4)
      clear hU hout hb4 Hc
      go_wp2
      go_ret
      exact SplitOut.no HU.out Hb.out
    have hq1 := readU_len hu1
    generalize hg1 : a.tgt (sp ++ [((k : Int), (0 : Int), (0 : Int))]).length = g1 at *
    obtain ⟨hv3b, _⟩ := HV3.out.set1 (.int .i64 g1)
    have hV3s : wo.heap.size < (w3.setCell ⟨wo.heap.size, 1, none⟩ (.int .i64 g1)).heap.size := hv3b.lt
    have hv4 := hv3b.kept (hk4.at hV3s hRV hvn2) (by have := hk4.size; omega)
    have HV4 := Lib.hid hv4
    have hvn4 := hk4.ne hV3s hvn2
    have HK4 := Lib.hid ((HK3.out.new (Nat.le_refl _) (.int .i64 g1)).trans hk4)
    have HST4 := Lib.hid hst4
    have hx4 : Box w4 R (sv q1) v4 := by unfold RdSt at hst4; exact hst4.2.1
    have Hu1 := Lib.hid hu1
    have Hg1 := Lib.hid hg1
    have Hq1 := Lib.hid hq1
    clear hout Hc hv3b hst4 hk4 hv4 HK3 HST3 HV3 hV3s hu1 hg1 hq1 hV3 hvn2
    by_cases h44 : q1.head? = some 44
    case neg =>
      have hU : tailU f (97 + k) (nats8 (40 :: r1)) = none := by rw [nats8_cons]; exact tailU_no3 Hu1.out (nats8_hd h44)
      have Ht := Lib.hid (tookNoP 44 q1 h44 (by have := Hl1.out; have := Hq1.out; omega) R _ w4 hx4)
      have HU := Lib.hid hU
      clear hx4 hU h44
      go_wp2_with fail
      refine Ht.out.mono ?_
      rintro e w5 ⟨rfl, hg5⟩
      have Hb := Lib.hid ((HK4.out.trans (K3.own hg5 v4.ownBlock)).below hSR hRl HROW.out)
      go_wp2
      go_ret
      exact SplitOut.no HU.out Hb.out
    obtain ⟨r3, rfl⟩ := hd_cons h44
    have hu1 := Hu1.out
    rw [nats8_cons, show (44 : UInt8).toNat = 44 from rfl] at hu1
    have HU1 := Lib.hid hu1
    have Hl2 := Lib.hid (show n + 1 + a.size + r3.length ≤ 400 by have := Hl1.out; have := Hq1.out; simp only [List.length_cons] at this; omega)
    have Hf2 := Lib.hid (show r3.length < f by have := Hf1.out; have := Hq1.out; simp only [List.length_cons] at this; omega)
    have Ht := Lib.hid (tookYesP 44 r3 (by have := Hl2.out; omega) R _ w4 hx4)
    clear hx4 h44 Hu1 hu1 Hq1 Hl1 Hf1
    go_wp2_with fail
    refine Ht.out.mono ?_
    rintro e w5 ⟨rfl, hx5, hg5⟩
    have hst5 := HST4.out.took hx5 hg5
    have hk5 := HK4.out.trans (K3.own hg5 v4.ownBlock)
    have HK5 := Lib.hid hk5
    have hv5 := HV4.out.grown hg5 (by intro e; cases e; exact hRV rfl)
    have HV5 := Lib.hid hv5
    have hV5 := hv5.lt
    have hl1 : (sp ++ [((k : Int), (0 : Int), (0 : Int))]).length = n + 1 := by rw [List.length_append, Hn.out]; rfl
    have hl2 : (sp ++ [((k : Int), (0 : Int), (0 : Int))] ++ a.flat (sp ++ [((k : Int), (0 : Int), (0 : Int))]).length).length = n + 1 + a.size := by rw [List.length_append, PT.flat_len, hl1]
    have hc := Ih.out r3 (sp ++ [((k : Int), (0 : Int), (0 : Int))] ++ a.flat (sp ++ [((k : Int), (0 : Int), (0 : Int))]).length) v4 S R wo.heap.size 2 w5 Hf2.out (by rw [hl2]; exact Hl2.out) hst5 hRV hvn4 hSV hV5 ⟨0, hv5.2.2.1⟩ hv5.2.2.2.2.2.1
    have Hc := Lib.hid hc
    have Hll2 := Lib.hid hl2
    clear hst5 hk5 hv5 hc hx5 hg5 Ht HST4 HK4 HV4 hl1 hl2
    go_wp2_with fail
    refine Hc.out.mono ?_
    intro e w6 hout
    rcases hout.out with ⟨b, q2, v6, hu2, rfl, hst6, hk6⟩ | ⟨hu2, rfl, hb6⟩
    case inr =>
      have hU : tailU f (97 + k) (nats8 (40 :: r1)) = none := by rw [nats8_cons]; exact tailU_no4 HU1.out hu2
      have HU := Lib.hid hU
      have Hb := Lib.hid ((HK5.out.below hSR hRl HROW.out).trans hb6)
      clear hU hout hb6 Hc
      go_wp2
      go_ret
      exact SplitOut.no HU.out Hb.out
    have hq2 := readU_len hu2
    have hfin := grow_finalP (sp := sp) (k := k) (a := a) (b := b)
    rw [Hg1.out, Hn.out] at hfin
    have hl3 : (sp ++ [((k : Int), (0 : Int), (0 : Int))] ++ a.flat (sp ++ [((k : Int), (0 : Int), (0 : Int))]).length ++ b.flat (sp ++ [((k : Int), (0 : Int), (0 : Int))] ++ a.flat (sp ++ [((k : Int), (0 : Int), (0 : Int))]).length).length).length = n + 1 + a.size + b.size := by rw [List.length_append, PT.flat_len, Hll2.out]
    generalize sp ++ [((k : Int), (0 : Int), (0 : Int))] ++ a.flat (sp ++ [((k : Int), (0 : Int), (0 : Int))]).length = S2 at *
    generalize b.tgt S2.length = g2 at *
    generalize S2 ++ b.flat S2.length = S3 at *
    obtain ⟨hv5b, _⟩ := HV5.out.set2 (.int .i64 g2)
    have hV5s : wo.heap.size < (w5.setCell ⟨wo.heap.size, 2, none⟩ (.int .i64 g2)).heap.size := hv5b.lt
    have hv6 := hv5b.kept (hk6.at hV5s hRV hvn4) (by have := hk6.size; omega)
    have HV6 := Lib.hid hv6
    have hvn6 := hk6.ne hV5s hvn4
    have HK6 := Lib.hid ((HK5.out.new (Nat.le_refl _) (.int .i64 g2)).trans hk6)
    have HST6 := Lib.hid hst6
    have hx6 : Box w6 R (sv q2) v6 := by unfold RdSt at hst6; exact hst6.2.1
    have Hu2 := Lib.hid hu2
    have Hq2 := Lib.hid hq2
    have Hfin := Lib.hid hfin
    have Hl3 := Lib.hid hl3
    clear hout Hc hv5b hst6 hk6 hv6 HK5 HV5 hV5s hu2 hq2 hfin hl3 hV5 hvn4
    by_cases h41 : q2.head? = some 41
    case neg =>
      have hU : tailU f (97 + k) (nats8 (40 :: r1)) = none := by rw [nats8_cons]; exact tailU_no5 HU1.out Hu2.out (nats8_hd h41)
      have Ht := Lib.hid (tookNoP 41 q2 h41 (by have := Hl2.out; have := Hq2.out; omega) R _ w6 hx6)
      have HU := Lib.hid hU
      clear hx6 hU h41
      go_wp2_with fail
      refine Ht.out.mono ?_
      rintro e w7 ⟨rfl, hg7⟩
      have Hb := Lib.hid ((HK6.out.trans (K3.own hg7 v6.ownBlock)).below hSR hRl HROW.out)
      go_wp2
      go_ret
      exact SplitOut.no HU.out Hb.out
    obtain ⟨q, rfl⟩ := hd_cons h41
    have hu2 := Hu2.out
    rw [nats8_cons, show (41 : UInt8).toNat = 41 from rfl] at hu2
    have hU : tailU f (97 + k) (nats8 (40 :: r1)) = some (.node k a b, nats8 q) := by
      have h := tailU_yes (c := 97 + k) HU1.out hu2
      rw [show 97 + k - 97 = k by omega] at h
      rw [nats8_cons]; exact h
    have HU := Lib.hid hU
    have Ht := Lib.hid (tookYesP 41 q (by have := Hl2.out; have := Hq2.out; simp only [List.length_cons] at this; omega) R _ w6 hx6)
    clear hx6 h41 Hu2 hu2 Hq2 Hl2 Hf2 hU HU1 Ih
    go_wp2_with fail
    refine Ht.out.mono ?_
    rintro e w7 ⟨rfl, hx7, hg7⟩
    have hst7 := HST6.out.took hx7 hg7
    have hk7 := HK6.out.trans (K3.own hg7 v6.ownBlock)
    have HK7 := Lib.hid hk7
    have hv7 := HV6.out.grown hg7 (by intro e; cases e; exact hRV rfl)
    have hr7 := hst7.lt
    unfold RdSt at hst7
    obtain ⟨_, _, ho7, hne7⟩ := hst7
    have hL3 : n < S3.length := by have := Hl3.out; omega
    obtain ⟨g13, c13, rfl⟩ : ∃ g13 c13, v6 = .slice (some ⟨g13, 0, none⟩) S3.length c13 := by
      rcases ho7.2 with ⟨_, h0⟩ | ⟨g12, c12, cur, h, _⟩
      · omega
      · exact ⟨g12, c12, h⟩
    have hg13 := ho7.lt g13 rfl
    have hsc13 : S3.length ≤ c13 := by
      rcases ho7.2 with ⟨h, _⟩ | ⟨_, _, cur, h, _, _, h2, _⟩
      · cases h
      · cases h; exact h2
    have hgR : g13 ≠ R := fun e => hne7 (by rw [e]; rfl)
    obtain ⟨ho8, hb8, ⟨ca, cb, cc, q1, q2, q3⟩, z1, z2, z3⟩ := split_stored ho7 rfl n hL3 ((k : Int), g1, g2)
    dsimp only at ho8 hb8
    have hg8 : w7.grownBy (((w7.setCell ⟨g13, n * 3, none⟩ (.int .i64 k)).setCell ⟨g13, n * 3 + 1, none⟩ (.int .i64 g1)).setCell ⟨g13, n * 3 + 2, none⟩ (.int .i64 g2)) (some g13) := grown_trans (grown_trans (grown_set _ _ _ _) (grown_set _ _ _ _)) (grown_set _ _ _ _)
    have hx8 := hx7.grown hg8 (by intro e; cases e; exact hgR rfl)
    have HK8 := Lib.hid (HK7.out.trans (K3.row (rb' := (Value.slice (some ⟨g13, 0, none⟩) S3.length c13).ownBlock) hg8 (.inl rfl)))
    have HST8 : Hid (RdSt (((w7.setCell ⟨g13, n * 3, none⟩ (.int .i64 k)).setCell ⟨g13, n * 3 + 1, none⟩ (.int .i64 g1)).setCell ⟨g13, n * 3 + 2, none⟩ (.int .i64 g2)) S R q (sp ++ (PT.node k a b).flat n) (.slice (some ⟨g13, 0, none⟩) S3.length c13)) := by
      unfold Hid RdSt
      refine ⟨hSR, hx8, ?_, hne7⟩
      rw [← Hfin.out, List.length_set]
      exact ho8
    clear ho8 hb8 hg8 hx8 ho7 hne7 HST6 HK6 HV6 hk7 Ht hg7
    obtain ⟨x1, x2, x3, x4, x5⟩ := hx7
    obtain ⟨y1, y2, y3, y4, y5, y6, y7⟩ := hv7
    generalize hLS3 : S3.length = L3 at *
    have hmL : (n : Int) < (L3 : Int) := by omega
    clear hLS3
    go_wp2_with fail
    go_region_law (fail)
    all_goals
      go_wp2
      go_ret
      refine SplitOut.yes HU.out rfl (by rw [Hn.out]; first | exact HST8.out | exact HST8.out.drew 1 | exact HST8.out.drew _) (by first | exact HK8.out | exact HK8.out.drew 1 | exact HK8.out.drew _)
end Go.Proofs.YtefmoljipbbmmaaDoor
/- Contracts of the program's reader of proofs: cases, and ReadProof. -/
namespace Go.Proofs.YtefmoljipbbmmaaDoor
open Go.RowKit Go.Joins
theorem setCell_heap_at {a b : World} {g i : Nat} {z : Value} (h : a.heap[g]? = b.heap[g]?) : (a.setCell ⟨g, i, none⟩ z).heap[g]? = (b.setCell ⟨g, i, none⟩ z).heap[g]? := by
  simp only [World.setCell, Array.getElem?_modify, h]
theorem K3.next {w w2 : World} {R nb ni : Nat} (hg : w.grownBy w2 (some R)) (hn : nb ≠ R) (hnw : nb < w.heap.size) (z : Value) (rb : Option Nat) : K3 (w.setCell ⟨nb, ni, none⟩ z) (w2.setCell ⟨nb, ni, none⟩ z) R rb rb := by
  refine ⟨hg.os, hg.tape, hg.output, by simpa [World.setCell] using hg.size, fun k hk hR _ => ?_, fun _ h => .inl h⟩
  have hk' : k < w.heap.size := by simpa [World.setCell] using hk
  have e := hg.block k hk' (fun e => hR (by cases e; rfl))
  by_cases hkn : k = nb
  · subst hkn; exact setCell_heap_at e
  · rw [Below.heap_setCell w2 ⟨nb, ni, none⟩ z k (by simpa using hkn), Below.heap_setCell w ⟨nb, ni, none⟩ z k (by simpa using hkn)]
    exact e
theorem RdSt.next {w : World} {S R nb ni : Nat} {s : List UInt8} {sp : List Sp3} {v : Value} (h : RdSt w S R s sp v) (hn : nb ≠ R) (hv : v.ownBlock ≠ some nb) (z : Value) : RdSt (w.setCell ⟨nb, ni, none⟩ z) S R s sp v := by
  obtain ⟨h1, h2, h3, h4⟩ := h
  refine ⟨h1, h2.grown (grown_set w nb ni z) (by intro e; cases e; exact hn rfl), h3.kept (grown_set w nb ni z) ?_, h4⟩
  cases hb : v.ownBlock with
  | none => exact .inl rfl
  | some k => right; intro e; exact hv (by rw [hb, e])
theorem below_of_grownQ {w w' : World} {b B : Nat} (h : w.grownBy w' (some b)) (hb : B ≤ b) (hs : b < w.heap.size) : Below B w w' := ⟨h.os, h.tape, h.output, h.size, fun k hk => h.block k (by omega) (fun e => by cases e; omega)⟩
theorem below_next {S nb ni : Nat} {w : World} (hS : S ≤ nb) (z : Value) : Below S w (w.setCell ⟨nb, ni, none⟩ z) := (Below.refl S w).setCell (p := ⟨nb, ni, none⟩) hS z
/-- what is read is small -/
def PT.wide : PT → Bool
  | .leaf g => decide (-11 ≤ g ∧ g < 0)
  | .node k a b => decide (k ≤ 25) && (a.wide && b.wide)
theorem readU_wide : ∀ (f : Nat) (s : List Nat) (t : PT) (q : List Nat), readU f s = some (t, q) → t.wide = true := by
  intro f
  induction f with
  | zero => intro s t q h; cases h
  | succ f ih =>
    intro s t q h
    cases s with
    | nil => rw [readU_nil] at h; cases h
    | cons c r =>
      by_cases h1 : c = 42
      · subst h1; rw [readU_star] at h; cases h; rfl
      · by_cases h2 : 48 ≤ c ∧ c ≤ 57
        · rw [readU_digit h2.1 h2.2] at h
          cases h
          rw [PT.wide, decide_eq_true_eq]; omega
        · by_cases h3 : 97 ≤ c ∧ c ≤ 122
          · rw [readU_letter h3.1 h3.2] at h
            obtain ⟨r1, a, r2, b, rfl, ha, hb, rfl⟩ := tailU_of h
            rw [PT.wide, ih _ _ _ ha, ih _ _ _ hb, decide_eq_true (by omega)]; rfl
          · rw [readU_bad h1 h2 h3] at h; cases h
theorem PT.wide_tgt {t : PT} (h : t.wide = true) (n : Nat) (hn : n ≤ 1000) : I64 (t.tgt n) := by
  cases t with
  | leaf g => rw [PT.wide, decide_eq_true_eq] at h; show I64 g; unfold I64; omega
  | node k a b => show I64 (n : Int); unfold I64; omega
theorem PT.wide_flat : ∀ (t : PT) (n : Nat), t.wide = true → n + t.size ≤ 1000 → S64 (t.flat n)
  | .leaf g, n, _, _ => fun x hx => by cases hx
  | .node k a b, n, h, hn => by
    rw [PT.wide, Bool.and_eq_true, Bool.and_eq_true, decide_eq_true_eq] at h
    have hsz : (PT.node k a b).size = 1 + a.size + b.size := rfl
    intro x hx
    rcases List.mem_cons.1 hx with rfl | hx
    · exact ⟨(by show I64 (k : Int); unfold I64; omega), PT.wide_tgt h.2.1 _ (by omega), PT.wide_tgt h.2.2 _ (by omega)⟩
    · rcases List.mem_append.1 hx with hx | hx
      · exact PT.wide_flat a _ h.2.1 (by omega) x hx
      · exact PT.wide_flat b _ h.2.2 (by omega) x hx
attribute [local irreducible] CaseOut SplitOut scells readU tailU nats8 RdSt K3
set_option maxRecDepth 100000 in
set_option maxHeartbeats 8000000 in
theorem readCase_step (f : Nat) (ih : SplitC 54 f) : ReadC 35 (f + 1) := by
  intro s sp v S R nb ni w hf hsl hst hnR hvn hSn hnl hz hfz
  have hx : Box w R (sv s) v := by have h := hst; unfold RdSt at h; exact h.2.1
  have hSR : S ≤ R := by have h := hst; unfold RdSt at h; exact h.1
  have HST := Lib.hid hst
  cases s with
  | nil =>
    have Ht := Lib.hid (takeNilP R v w hx)
    have HU := Lib.hid (show readU (f + 1) (nats8 []) = none by rw [show nats8 [] = [] from by unfold nats8; rfl]; exact readU_nil)
    clear hst hx hz
    go_enter Tryd.func35, Tryd.ntmps35
    go_wp2_with fail
    refine (Ht.out).mono ?_
    rintro e w' ⟨rfl, rfl⟩
    go_wp2
    go_ret
    exact CaseOut.no HU.out (Below.refl _ _)
  | cons c r =>
    have Ht := Lib.hid (takeOneP c r (by simp only [List.length_cons] at hsl; omega) R v w hx)
    have hlR := hst.lt
    obtain ⟨z, hz⟩ := hz
    have hkeep : ∀ w2, w.grownBy w2 (some R) → w2.cell? ⟨nb, ni, none⟩ = some (.int .i64 z) ∧ w2.frozen? ⟨nb, ni, none⟩ = false ∧ nb < w2.heap.size := fun w2 hg => by
      have e := hg.block nb hnl (fun e => hnR (by cases e; rfl))
      exact ⟨(World.cell?_of_block (w := w) e).trans hz, (World.frozen?_of_block (w := w) e).trans hfz, by have := hg.size; omega⟩
    have Hkeep := Lib.hid hkeep
    have Hsl := Lib.hid (show sp.length + r.length ≤ 400 by simp only [List.length_cons] at hsl; omega)
    have Hf := Lib.hid (show r.length < f by simp only [List.length_cons] at hf; omega)
    clear hx hst hkeep hz hfz hsl hf
    by_cases h42 : c = 42
    · subst h42
      have HU := Lib.hid (show readU (f + 1) (nats8 (42 :: r)) = some (.leaf (-1), nats8 r) by rw [nats8_cons, show (42 : UInt8).toNat = 42 from rfl]; exact readU_star)
      have e1 : sp ++ (PT.leaf (-1)).flat sp.length = sp := by simp [PT.flat]
      go_enter Tryd.func35, Tryd.ntmps35
      go_wp2_with fail
      refine (Ht.out).mono ?_
      rintro e w2 ⟨rfl, hx2, hg2⟩
      obtain ⟨k1, k2, k3⟩ := Hkeep.out w2 hg2
      have HS3 := Lib.hid (((HST.out.took hx2 hg2).next (ni := ni) hnR hvn (.int .i64 (-1))))
      have HK3 := Lib.hid (K3.next (ni := ni) hg2 hnR hnl (.int .i64 (-1)) v.ownBlock)
      clear hx2 hg2 Ht
      go_wp2
      go_ret
      exact CaseOut.yes HU.out (by rw [e1]; exact HS3.out) HK3.out
    · have hc42 : ¬ c.toNat = 42 := fun e => h42 (UInt8.toNat_inj.1 (by rw [e]; rfl))
      have hc42i : ¬ (c.toNat : Int) = 42 := by omega
      by_cases hd : 48 ≤ c.toNat ∧ c.toNat ≤ 57
      · have HU := Lib.hid (show readU (f + 1) (nats8 (c :: r)) = some (.leaf (-2 - ((c.toNat - 48 : Nat) : Int)), nats8 r) by rw [nats8_cons]; exact readU_digit hd.1 hd.2)
        have e1 : sp ++ (PT.leaf (-2 - ((c.toNat - 48 : Nat) : Int))).flat sp.length = sp := by simp [PT.flat]
        have e2 : ((c.toNat - 48 : Nat) : Int) = (c.toNat : Int) - 48 := by omega
        have E1 := Lib.hid e1
        have E2 := Lib.hid e2
        have ha : (48 : Int) ≤ (c.toNat : Int) := by omega
        have hb : (c.toNat : Int) ≤ 57 := by omega
        clear e1 e2 hd h42
        go_enter Tryd.func35, Tryd.ntmps35
        go_wp2_with fail
        refine (Ht.out).mono ?_
        rintro e w2 ⟨rfl, hx2, hg2⟩
        obtain ⟨k1, k2, k3⟩ := Hkeep.out w2 hg2
        have HS3 := Lib.hid (((HST.out.took hx2 hg2).next (ni := ni) hnR hvn (.int .i64 (-2 - ((c.toNat : Int) - 48)))))
        have HK3 := Lib.hid (K3.next (ni := ni) hg2 hnR hnl (.int .i64 (-2 - ((c.toNat : Int) - 48))) v.ownBlock)
        clear hx2 hg2 Ht
        go_wp2
        go_ret
        refine CaseOut.yes (v' := v) HU.out ?_ ?_
        · rw [E1.out]; exact HS3.out
        · rw [show (PT.leaf (-2 - ((c.toNat - 48 : Nat) : Int))).tgt sp.length = -2 - ((c.toNat - 48 : Nat) : Int) from rfl, E2.out]; exact HK3.out
      · by_cases hl : 97 ≤ c.toNat ∧ c.toNat ≤ 122
        · have HU := Lib.hid (show readU (f + 1) (nats8 (c :: r)) = tailU f c.toNat (nats8 r) by rw [nats8_cons]; exact readU_letter hl.1 hl.2)
          have ha : (97 : Int) ≤ (c.toNat : Int) := by omega
          have hb : (c.toNat : Int) ≤ 122 := by omega
          have hnd : ¬ (c.toNat : Int) ≤ 57 := by omega
          have hgd : (48 : Int) ≤ (c.toNat : Int) := by omega
          unfold SplitC at ih
          have Ih := Lib.hid (fun w h => ih c.toNat r sp v S R w hl.1 hl.2 Hf.out Hsl.out h)
          clear ih hd hl h42
          obtain ⟨vo, vc, rfl⟩ : ∃ vo vc, v = .slice vo sp.length vc := by
            have h := HST.out
            unfold RdSt at h
            exact own_len h.2.2.1
          have Hvn := Lib.hid hvn
          generalize hn : sp.length = n at *
          have Hn := Lib.hid hn; clear hn hvn
          go_enter Tryd.func35, Tryd.ntmps35
          go_wp2_with fail
          refine (Ht.out).mono ?_
          rintro e w2 ⟨rfl, hx2, hg2⟩
          obtain ⟨k1, k2, k3⟩ := Hkeep.out w2 hg2
          have HS3 := Lib.hid (((HST.out.took hx2 hg2).next (ni := ni) hnR Hvn.out (.int .i64 n)))
          have HK3 := Lib.hid (K3.next (ni := ni) hg2 hnR hnl (.int .i64 n) (Value.slice vo n vc).ownBlock)
          have Hb2 := Lib.hid ((below_of_grownQ hg2 hSR hlR).trans (below_next (ni := ni) hSn (.int .i64 n)))
          obtain ⟨y1, y2, y3, y4, y5⟩ := hx2
          clear hg2 Ht
          go_wp2_with fail
          refine (Ih.out _ HS3.out).mono ?_
          intro e w4 hout
          rcases hout.out with ⟨t, q, v4, hu, rfl, htg, hst4, hk4⟩ | ⟨hu, rfl, hb4⟩
          · have HU2 := Lib.hid (HU.out.trans hu)
            have HS4 := Lib.hid hst4
            have HK4 := Lib.hid (HK3.out.trans hk4)
            have Htg := Lib.hid htg
            clear hu hst4 hk4 htg hout
            go_wp2
            go_ret
            exact CaseOut.yes HU2.out HS4.out (by rw [Htg.out, Hn.out]; exact HK4.out)
          · have HU2 := Lib.hid (HU.out.trans hu)
            have Hb4 := Lib.hid (Hb2.out.trans hb4)
            clear hu hb4 hout
            go_wp2
            go_ret
            exact CaseOut.no HU2.out Hb4.out
        · have HU := Lib.hid (show readU (f + 1) (nats8 (c :: r)) = none by rw [nats8_cons]; exact readU_bad hc42 hd hl)
          have hx : Hid ((c.toNat : Int) < 48 ∨ (57 < (c.toNat : Int) ∧ (c.toNat : Int) < 97) ∨ 122 < (c.toNat : Int)) := by unfold Hid; omega
          clear hd hl h42
          go_enter Tryd.func35, Tryd.ntmps35
          go_wp2_with fail
          refine (Ht.out).mono ?_
          rintro e w2 ⟨rfl, hx2, hg2⟩
          have Hb2 := Lib.hid (below_of_grownQ hg2 hSR hlR)
          clear hx2 hg2 Ht
          rcases hx.out with h | ⟨h, h'⟩ | h
          · have h2 : ¬ (48 : Int) ≤ (c.toNat : Int) := by omega
            have h3 : ¬ (97 : Int) ≤ (c.toNat : Int) := by omega
            go_wp2
            go_ret
            exact CaseOut.no HU.out Hb2.out
          · have h2 : (48 : Int) ≤ (c.toNat : Int) := by omega
            have h3 : ¬ (97 : Int) ≤ (c.toNat : Int) := by omega
            have h4 : ¬ (c.toNat : Int) ≤ 57 := by omega
            go_wp2
            go_ret
            exact CaseOut.no HU.out Hb2.out
          · have h2 : (48 : Int) ≤ (c.toNat : Int) := by omega
            have h3 : (97 : Int) ≤ (c.toNat : Int) := by omega
            have h4 : ¬ (c.toNat : Int) ≤ 57 := by omega
            have h5 : ¬ (c.toNat : Int) ≤ 122 := by omega
            go_wp2
            go_ret
            exact CaseOut.no HU.out Hb2.out
theorem readCase_all : ∀ f, ReadC 35 f := by
  intro f
  induction f with
  | zero => intro s sp v S R nb ni w h; exact absurd h (Nat.not_lt_zero _)
  | succ f ih => exact readCase_step f (readSplit_step f ih)
attribute [local irreducible] holds tabN tabV holdsV sameV followsV alwaysV matterV claimOk mayT mayV ctabV ctabN storyV storyOk storyN storyT ctermV ctermL provesF tbF readF foundS foundG
set_option maxRecDepth 100000 in
set_option maxHeartbeats 8000000 in
theorem implReadProof (p : Int) (qs : List QC) (ms : List (Int × Int)) (s : List UInt8) (hs20 : s.length ≤ 2000000) (B : Nat) (v u : Value) (w : World) (hr : RdStory w B v qs) (hr' : RdMarks w B u ms) (hB : B ≤ w.heap.size) :
    Calls Tryd.prog 17 #[.int .i64 p, v, u, sv s] w (FindOut (foundS (readF p (qs.map (·.2)) ms (nats8 s))) (foundG (readF p (qs.map (·.2)) ms (nats8 s))) (readF p (qs.map (·.2)) ms (nats8 s)).isSome w) := by
  have Hr := Lib.hid hr
  have Hm := Lib.hid hr'
  clear hr hr'
  obtain ⟨w1, hw1, hx1, hb1, hs1⟩ := Box.new w (.int .i64 0) (.slice none 0 0) 37
  have Hr1 := Lib.hid (Hr.out.below (w' := w1) (fun q hq => hb1.block q (by omega)))
  have Hm1 := Lib.hid (Hm.out.below (w' := w1) (fun q hq => hb1.block q (by omega)))
  have hB1 : B ≤ w1.heap.size := by omega
  have Hb1 := Lib.hid hb1
  have HX1 := Lib.hid hx1
  have hfs : foundS none = [] := by unfold foundS; rfl
  have hfg : foundG none = 0 := by unfold foundG; rfl
  have hno : ∀ wB, Box wB w.heap.size (.int .i64 0) (.slice none 0 0) → Below w.heap.size w wB → ∃ w6, w6 = (wB.setCell ⟨w.heap.size, 0, none⟩ (.int .i64 0)).setCell ⟨w.heap.size, 1, none⟩ (.slice none 0 0) ∧ Box w6 w.heap.size (.int .i64 0) (.slice none 0 0) ∧ FindOut [] 0 false w (.returned (.tuple #[.agg #[.int .i64 0, .slice none 0 0], .bool false])) w6 :=
    fun wB hx hb => proof_fin hx hb (own_nil11 _ _) 0 false
  have Hno := Lib.hid hno
  have hlt1 : w.heap.size < w1.heap.size := hx1.2.2.2.2
  clear hb1 hno Hr Hm hs1
  by_cases hl : s.length ≤ 200
  case neg =>
    rw [readF_longP hl, hfs, hfg, isSome_noneT]
    obtain ⟨w6, e6, hx6, hout⟩ := Hno.out w1 hx1 Hb1.out
    have E6 := Lib.hid e6
    have Hout := Lib.hid hout
    have hlI : (200 : Int) < (s.length : Int) := by omega
    obtain ⟨x1, x2, x3, x4, x5⟩ := hx1
    clear e6 hout hfs hfg
    go_enter Tryd.func17, Tryd.ntmps17
    go_upto_region 1 with fail
    rw [← hw1]
    clear hw1
    go_wp2
    rw [← E6.out]
    obtain ⟨z1, z2, _⟩ := hx6
    exact bodyPost_ret (by simp [results, Tryd.results17, go_sem, z1, z2]) rfl Hout.out
  rw [readF_U hl]
  obtain ⟨w2, hw2, hx2, hb2, hs2⟩ := Box.new w1 (sv s) (.slice none 0 0) 72
  obtain ⟨w3, hw3⟩ : ∃ w3, w3 = w2.alloc (.cells #[.int .i64 0] 3) := ⟨_, rfl⟩
  have hb3 : Below w2.heap.size w2 w3 := by rw [hw3]; exact (Below.refl _ _).alloc (Nat.le_refl _) _
  have hn3 : w3.cell? ⟨w2.heap.size, 0, none⟩ = some (.int .i64 0) ∧ w3.frozen? ⟨w2.heap.size, 0, none⟩ = false := by
    have hh := heap_alloc_new w2 (.cells #[.int .i64 0] 3)
    rw [← hw3] at hh
    have := cell_of_row w3 w2.heap.size 0 _ 3 (0, 0) hh
    exact ⟨by rw [this]; rfl, frozen_of_row _ _ _ _ _ hh⟩
  have hs3 : w3.heap.size = w2.heap.size + 1 := by rw [hw3]; simp
  have hx3 := hx2.below hb3
  have hst3 : RdSt w3 (w.heap.size + 1) w1.heap.size s [] (.slice none 0 0) := by
    unfold RdSt
    exact ⟨hlt1, hx3, own_nil11 _ _, by intro e; cases e⟩
  have hc := readCase_all (s.length + 1) s [] (.slice none 0 0) (w.heap.size + 1) w1.heap.size w2.heap.size 0 w3 (by omega) (by simp; omega) hst3 (by omega) (by intro e; cases e) (by omega) (by omega) ⟨0, hn3.1⟩ hn3.2
  have Hc := Lib.hid hc
  have HX3 := Lib.hid ((HX1.out.below hb2).belowAt hb3 (by omega))
  have Hb3 := Lib.hid (Hb1.out.trans ((hb2.trans (hb3.mono (by omega))).mono (by omega)))
  have hS3 : w3.heap.size = w.heap.size + 3 := by have : w1.heap.size = w.heap.size + 1 := by rw [hw1]; simp
                                                  have : w2.heap.size = w1.heap.size + 1 := by rw [hw2]; simp
                                                  omega
  have HS3 := Lib.hid hS3
  have hnb : w2.heap.size < w3.heap.size := by omega
  have hRn : ¬ w2.heap.size = w1.heap.size := by omega
  have Hnb := Lib.hid hnb
  have Hn3 := Lib.hid hn3.1
  have HRn := Lib.hid hRn
  have hlI : (s.length : Int) ≤ 200 := by omega
  obtain ⟨x1, x2, x3, x4, x5⟩ := hx1
  obtain ⟨y1, y2, y3, y4, y5⟩ := hx2
  clear hst3 hc hx3 hb2 hb3 hS3 hs3 hn3 hs2
  go_enter Tryd.func17, Tryd.ntmps17
  go_upto_region 1 with fail
  rw [← hw1]
  clear hw1
  go_upto_region 4 with fail
  rw [← hw2]
  clear hw2
  go_upto_region 5 with fail
  rw [← hw3]
  clear hw3 x1 x2 x3 x4 y1 y2 y3 y4
  go_wp2_with fail
  refine Hc.out.mono ?_
  intro e w4 hout
  rcases hout.out with ⟨t, q, v4, hu, rfl, hst4, hk4⟩ | ⟨hu, rfl, hb4⟩
  case inr =>
    have HE : Hid ((readU (s.length + 1) (nats8 s)).bind (fun tq => if tbF p (qs.map (·.2)) ms (tq.1.flat 0) (tq.1.tgt 0) = s then some tq.1 else none) = none) := by unfold Hid; rw [hu]; rfl
    have hx4 := HX3.out.belowAt hb4 (by omega)
    obtain ⟨w6, e6, hx6, hout6⟩ := Hno.out w4 hx4 (Hb3.out.trans (hb4.mono (by omega)))
    have E6 := Lib.hid e6
    have Hout : Hid (FindOut (foundS (none : Option PT)) (foundG none) (none : Option PT).isSome w (.returned (.tuple #[.agg #[.int .i64 0, .slice none 0 0], .bool false])) w6) := by unfold Hid; rw [hfs, hfg, isSome_noneT]; exact hout6
    obtain ⟨x1, x2, x3, x4, x5⟩ := hx4
    clear e6 hout6 hb4 hout Hc hfs hfg hu
    go_wp2
    rw [← E6.out]
    obtain ⟨z1, z2, _⟩ := hx6
    exact bodyPost_ret (v := .tuple #[.agg #[.int .i64 0, .slice none 0 0], .bool false]) (by simp [results, Tryd.results17, go_sem, z1, z2]) rfl (by rw [HE.out]; exact Hout.out)
  have hwd := readU_wide _ _ _ _ hu
  have hln := readU_len hu
  have h64 : I64 (t.tgt 0) := PT.wide_tgt hwd 0 (by omega)
  have hS64 : S64 (t.flat 0) := PT.wide_flat t 0 hwd (by omega)
  rw [List.nil_append, show t.flat ([] : List Sp3).length = t.flat 0 from rfl] at hst4
  rw [show t.tgt ([] : List Sp3).length = t.tgt 0 from rfl] at hk4
  have hbx4 : Box w4 w1.heap.size (sv q) v4 ∧ w4.ownsRow (w.heap.size + 1) TSp 3 v4 (t.flat 0).length (scells (t.flat 0)) := by unfold RdSt at hst4; exact ⟨hst4.2.1, hst4.2.2.1⟩
  have hn4 : w4.cell? ⟨w2.heap.size, 0, none⟩ = some (.int .i64 (t.tgt 0)) := by
    have e := hk4.at (k := w2.heap.size) (by simp [World.setCell]; omega) hRn (by intro e; cases e)
    exact (World.cell?_of_block (w := w3.setCell ⟨w2.heap.size, 0, none⟩ (.int .i64 (t.tgt 0))) e).trans (World.cell?_setCell_same' w3 _ _ (by rw [Hn3.out]; rfl))
  have hb4 : Below (w.heap.size + 1) w3 w4 := (below_next (ni := 0) (by omega) (.int .i64 (t.tgt 0))).trans (hk4.below (by omega) (by simp [World.setCell]; omega) (fun k e => by cases e))
  obtain ⟨hbx, ho4⟩ := hbx4
  obtain ⟨vo, vc, rfl⟩ := own_len ho4
  have hx4 := HX3.out.belowAt hb4 (by omega)
  have hb04 := Hb3.out.trans (hb4.mono (by omega))
  have hs4 := hb4.size
  have hrd4 := RdSplits.of_own ho4 hS64
  obtain ⟨w5, hw5, hp5, hb5, hs5⟩ := Box.new w4 (.int .i64 (t.tgt 0)) (.slice vo (t.flat 0).length vc) 37
  have hx5 := hx4.below hb5
  have hb05 := hb04.trans (hb5.mono (by omega))
  have ho5 := own_below ho4 hb5
  have htx := implProofText p (t.tgt 0) qs ms (t.flat 0) w5.heap.size v u (.slice vo (t.flat 0).length vc) w5 ((Hr1.out.below (w' := w5) (fun k hk => (hb05.block k (by omega)).trans (Hb1.out.block k (by omega)).symm)).mono (by have := hb05.size; omega)) ((Hm1.out.below (w' := w5) (fun k hk => (hb05.block k (by omega)).trans (Hb1.out.block k (by omega)).symm)).mono (by have := hb05.size; omega)) ((hrd4.below hb5.block).mono (by omega)) (Nat.le_refl _) h64
  have Htx := Lib.hid htx
  have HP5 := Lib.hid hp5
  have HX5 := Lib.hid hx5
  have HO5 := Lib.hid ho5
  have Hb5 := Lib.hid hb05
  have HE0 : Hid ((readU (s.length + 1) (nats8 s)).bind (fun tq => if tbF p (qs.map (·.2)) ms (tq.1.flat 0) (tq.1.tgt 0) = s then some tq.1 else none) = if tbF p (qs.map (·.2)) ms (t.flat 0) (t.tgt 0) = s then some t else none) := by unfold Hid; rw [hu]; rfl
  have htl : (tbF p (qs.map (·.2)) ms (t.flat 0) (t.tgt 0)).length ≤ 76 := tbF_len
  generalize tbF p (qs.map (·.2)) ms (t.flat 0) (t.tgt 0) = T at *
  obtain ⟨x1, x2, x3, x4, x5⟩ := hbx
  clear htx hx4 hb04 hrd4 hx5 hb05 ho5 hp5 hb5 hs5 ho4 hb4 hk4 hst4 hout Hc hu hwd hln HX3 HX1
  generalize hL : (t.flat 0).length = L at *
  have HL := Lib.hid hL; clear hL
  go_upto_region 8 with fail
  rw [← hw5]
  clear hw5 hn4 x1 x2 x3 x4
  have hp5 := HP5.out
  obtain ⟨p1, p2, p3, p4, p5⟩ := hp5
  go_wp2_with fail
  refine Htx.out.mono ?_
  rintro e w6 ⟨rfl, hb6⟩
  have hp6 := HP5.out.below hb6
  have hx6 := HX5.out.below hb6
  have Hb6 := Lib.hid (Hb5.out.trans (hb6.mono Hb5.out.size))
  have Ho6 := Lib.hid (own_below HO5.out hb6)
  clear hb6 p1 p2 p3 p4 p5 Htx
  obtain ⟨p1, p2, p3, p4, p5⟩ := hp6
  by_cases hT : T = s
  · have hTb : (T == s) = true := by rw [hT]; simp
    have HE : Hid ((readU (s.length + 1) (nats8 s)).bind (fun tq => if tbF p (qs.map (·.2)) ms (tq.1.flat 0) (tq.1.tgt 0) = s then some tq.1 else none) = some t) := by unfold Hid; rw [HE0.out, if_pos hT]
    obtain ⟨w7, e7, hx7, hout7⟩ := proof_fin (sp := t.flat 0) hx6 Hb6.out (by rw [HL.out]; exact Ho6.out) (t.tgt 0) true
    have E7 := Lib.hid e7
    have Hout : Hid (FindOut (foundS (some t)) (foundG (some t)) (some t).isSome w (.returned (.tuple #[.agg #[.int .i64 (t.tgt 0), .slice vo L vc], .bool true])) w7) := by unfold Hid; rw [show foundS (some t) = t.flat 0 by unfold foundS; rfl, show foundG (some t) = t.tgt 0 by unfold foundG; rfl]; exact hout7
    obtain ⟨y1, y2, y3, y4, y5⟩ := hx6
    clear e7 hout7 HE0 Hb6 Ho6
    go_wp2
    rw [← E7.out]
    obtain ⟨z1, z2, _⟩ := hx7
    exact bodyPost_ret (v := .tuple #[.agg #[.int .i64 (t.tgt 0), .slice vo L vc], .bool true]) (by simp [results, Tryd.results17, go_sem, z1, z2]) rfl (by rw [HE.out]; exact Hout.out)
  · have hTb : (T == s) = false := by simpa using hT
    have HE : Hid ((readU (s.length + 1) (nats8 s)).bind (fun tq => if tbF p (qs.map (·.2)) ms (tq.1.flat 0) (tq.1.tgt 0) = s then some tq.1 else none) = none) := by unfold Hid; rw [HE0.out, if_neg hT]
    obtain ⟨w7, e7, hx7, hout7⟩ := Hno.out w6 hx6 Hb6.out
    have E7 := Lib.hid e7
    have Hout : Hid (FindOut (foundS (none : Option PT)) (foundG none) (none : Option PT).isSome w (.returned (.tuple #[.agg #[.int .i64 0, .slice none 0 0], .bool false])) w7) := by unfold Hid; rw [hfs, hfg, isSome_noneT]; exact hout7
    obtain ⟨y1, y2, y3, y4, y5⟩ := hx6
    clear e7 hout7 HE0 Hb6 Ho6
    go_wp2
    rw [← E7.out]
    obtain ⟨z1, z2, _⟩ := hx7
    exact bodyPost_ret (v := .tuple #[.agg #[.int .i64 0, .slice none 0 0], .bool false]) (by simp [results, Tryd.results17, go_sem, z1, z2]) rfl (by rw [HE.out]; exact Hout.out)
end Go.Proofs.YtefmoljipbbmmaaDoor
/- Contracts of the program's functions of stage 11. -/
namespace Go.Proofs.YtefmoljipbbmmaaDoor
open Go.RowKit
theorem proofI_here : True := trivial
end Go.Proofs.YtefmoljipbbmmaaDoor

/- Texts of a proof, merged: PrfR, DrawPr, DrawPs, OneT. -/
import Derived.Test.YtefmoljipbbmmaaDoorPrfNode
import Derived.Test.YtefmoljipbbmmaaDoorMerged10
import Derived.Test.YtefmoljipbbmmaaDoorMerged11
/- Contract of the reference's ReadProof. -/
namespace Go.Proofs.YtefmoljipbbmmaaDoor
open Go.RowKit Go.Joins
theorem readF_long {p : Int} {s : List Cl} {ms : List (Int × Int)} {bs : List Nat} (h : ¬ bs.length ≤ 200) : readF p s ms bs = none := by unfold readF; rw [if_neg h]
theorem readF_none {p : Int} {s : List Cl} {ms : List (Int × Int)} {bs : List Nat} (h : readT 16 bs 0 = none) : readF p s ms bs = none := by
  cases hr : readF p s ms bs with
  | none => rfl
  | some t => rw [(readF_iff.1 hr).2.1] at h; cases h
theorem readF_more {p : Int} {s : List Cl} {ms : List (Int × Int)} {bs : List Nat} {t : PT} {q : List Nat} (h : readT 16 bs 0 = some (t, q)) (hq : q ≠ []) : readF p s ms bs = none := by
  cases hr : readF p s ms bs with
  | none => rfl
  | some u => rw [(readF_iff.1 hr).2.1] at h; cases h; exact absurd rfl hq
theorem nats8_len (s : List UInt8) : (nats8 s).length = s.length := by unfold nats8; simp
theorem nats8_back (s : List UInt8) : (nats8 s).map UInt8.ofNat = s := by
  unfold nats8
  rw [List.map_map]
  conv => rhs; rw [← List.map_id s]
  congr 1
  funext x
  simp
theorem nats8_nil {s : List UInt8} {j : Nat} (h : j < s.length) : nats8 (s.drop j) ≠ [] := by
  intro hn
  have := congrArg List.length hn
  rw [nats8_len, List.length_drop] at this
  simp at this; omega
/-- a tree's splits are numbers of the machine -/
theorem flat_S64 : ∀ (t : PT) (n : Nat), t.fine = true → n + t.size ≤ 100 → S64 (t.flat n)
  | .leaf g, n, _, _ => by intro s hs; cases hs
  | .node k a b, n, h, hn => by
    rw [PT.fine, Bool.and_eq_true, Bool.and_eq_true, decide_eq_true_eq] at h
    have hsz : (PT.node k a b).size = 1 + a.size + b.size := rfl
    have tgt64 : ∀ (u : PT) (j : Nat), u.fine = true → j ≤ 100 → I64 (u.tgt j) := by
      intro u j hu hj
      cases u with
      | leaf g => rw [PT.fine, decide_eq_true_eq] at hu; exact I64_small (by show -100 ≤ g; omega) (by show g ≤ 100; omega)
      | node _ _ _ => exact I64_small (by show -100 ≤ (j : Int); omega) (by show (j : Int) ≤ 100; omega)
    intro s hs
    rw [PT.flat] at hs
    rcases List.mem_cons.1 hs with rfl | hs
    · exact ⟨I64_small (by omega) (by omega), tgt64 a _ h.2.1 (by omega), tgt64 b _ h.2.2 (by omega)⟩
    · rcases List.mem_append.1 hs with hs | hs
      · exact flat_S64 a _ h.2.1 (by omega) s hs
      · exact flat_S64 b _ h.2.2 (by omega) s hs
/-- what is read whole is a proof exactly if its text is the same -/
theorem read_same {p : Int} {s : List Cl} {ms : List (Int × Int)} {bs : List UInt8} {t : PT} (hl : bs.length ≤ 200) (h : readT 16 (nats8 bs) 0 = some (t, [])) :
    (tbF p s ms (t.flat 0) (t.tgt 0) = bs ↔ provesF p s ms (t.flat 0) (t.tgt 0) = true) ∧ readF p s ms (nats8 bs) = if provesF p s ms (t.flat 0) (t.tgt 0) = true then some t else none := by
  have htx := text_read _ _ _ _ _ h
  have htight : t.tight = true := readF_text.fine_tight t htx.2.1
  have hbt : bt t = bs := by
    unfold bt
    have := htx.1
    rw [List.append_nil] at this
    rw [this, nats8_back]
  constructor
  · constructor
    · intro he
      cases hp : provesF p s ms (t.flat 0) (t.tgt 0) with
      | true => rfl
      | false =>
        exfalso
        rw [tbF_no hp] at he
        have := PT.text_ne t
        rw [← he] at hbt
        unfold bt at hbt
        simp at hbt
        exact this hbt
    · intro hp
      rw [tbF_yes hp, tree_back htight, hbt]
  · unfold readF
    rw [if_pos (by rw [nats8_len]; exact hl), h]
theorem I64_tgt {t : PT} {n : Nat} (h : t.fine = true) (hn : n ≤ 100) : I64 (t.tgt n) := by
  cases t with
  | leaf g => rw [PT.fine, decide_eq_true_eq] at h; exact I64_small (by show -100 ≤ g; omega) (by show g ≤ 100; omega)
  | node _ _ _ => exact I64_small (by show -100 ≤ (n : Int); omega) (by show (n : Int) ≤ 100; omega)
theorem own_new11 (w : World) : (w.alloc (.cells #[] TSp)).ownsRow w.heap.size TSp 3 (.slice (some ⟨w.heap.size, 0, none⟩) 0 0) ([] : List Sp3).length (scells []) := own_made11 w
attribute [local irreducible] holds tabN tabV holdsV sameV followsV alwaysV matterV claimOk mayT mayV ctabV ctabN storyV storyOk storyN storyT ctermV ctermL followsF agreeN agreeB closeB chkN checks nextOk ints hfV clL provesF onceB proofV noneK growR clashF leastU unkN scells findF growT foundS foundG bt treeOf tbF readT nats8 readF
set_option maxRecDepth 100000 in
set_option maxHeartbeats 8000000 in
theorem specReadProof (p : Int) (qs : List QC) (ms : List (Int × Int)) (s : List UInt8) (hs20 : s.length ≤ 2000000) (B : Nat) (v u : Value) (w : World) (hr : RdStory w B v qs) (hr' : RdMarks w B u ms) (hB : B ≤ w.heap.size) :
    Calls Tryd.prog 16 #[.int .i64 p, v, u, sv s] w (FindOut (foundS (readF p (qs.map (·.2)) ms (nats8 s))) (foundG (readF p (qs.map (·.2)) ms (nats8 s))) (readF p (qs.map (·.2)) ms (nats8 s)).isSome w) := by
  obtain ⟨w1, hw1, hx1, hb1, hs1⟩ := Box.new w (.int .i64 0) (.slice none 0 0) 37
  have hz1 : w1.heap.size = w.heap.size + 1 := by rw [hw1]; simp
  have Hr1 := Lib.hid (hr.below (w' := w1) (fun q hq => hb1.block q (by omega)))
  have Hm1 := Lib.hid (hr'.below (w' := w1) (fun q hq => hb1.block q (by omega)))
  have hB1 : B ≤ w1.heap.size := by omega
  have Hb1 := Lib.hid hb1
  have hfs : foundS none = [] := by unfold foundS; rfl
  have hfg : foundG none = 0 := by unfold foundG; rfl
  have Hno : Hid (∀ wB, Box wB w.heap.size (.int .i64 0) (.slice none 0 0) → Below w.heap.size w wB → ∃ w6, w6 = (wB.setCell ⟨w.heap.size, 0, none⟩ (.int .i64 0)).setCell ⟨w.heap.size, 1, none⟩ (.slice none 0 0) ∧ Box w6 w.heap.size (.int .i64 0) (.slice none 0 0) ∧ FindOut [] 0 false w (.returned (.tuple #[.agg #[.int .i64 0, .slice none 0 0], .bool false])) w6) :=
    fun wB hx hb => proof_fin hx hb (own_nil11 _ _) 0 false
  have HX1 := Lib.hid hx1
  clear hb1 hr hr'
  by_cases hl : s.length ≤ 200
  case neg =>
    rw [readF_long (by rw [nats8_len]; exact hl), hfs, hfg, isSome_noneT]
    obtain ⟨w6, e6, hx6, hout⟩ := Hno.out w1 hx1 Hb1.out
    have E6 := Lib.hid e6
    have Hout := Lib.hid hout
    have hl2 : 200 < s.length := by omega
    have hl3 : (200 : Int) < (s.length : Int) := by omega
    obtain ⟨y1, y2, y3, y4, y5⟩ := hx1
    clear e6 hout hfs hfg hl
    go_enter Tryd.func16, Tryd.ntmps16
    go_upto_region 1 with fail
    rw [← hw1]
    clear hw1
    go_wp2
    rw [← E6.out]
    obtain ⟨z1, z2, _⟩ := hx6
    exact bodyPost_ret (by simp [results, Tryd.results16, go_sem, z1, z2]) rfl Hout.out
  have hl2 : ¬ 200 < s.length := by omega
  have hl3 : ¬ (200 : Int) < (s.length : Int) := by omega
  obtain ⟨w2, hw2⟩ : ∃ w2, w2 = w1.alloc (.cells #[] TSp) := ⟨_, rfl⟩
  have hb2 : Below w1.heap.size w1 w2 := by rw [hw2]; exact (Below.refl _ _).alloc (Nat.le_refl _) _
  have ho2 : w2.ownsRow w1.heap.size TSp 3 (.slice (some ⟨w1.heap.size, 0, none⟩) 0 0) ([] : List Sp3).length (scells []) := by rw [hw2]; exact own_new11 w1
  have hs2 := hb2.size
  have hcall := specRead11 s hl 16 0 [] (Nat.zero_le _) (by simp) (by simp) w1.heap.size _ w2 ho2 hs2
  have Hcall := Lib.hid hcall
  obtain ⟨o, hoo⟩ : ∃ o, o = readF p (qs.map (·.2)) ms (nats8 s) := ⟨_, rfl⟩
  rw [← hoo]
  have Hoo := Lib.hid hoo; clear hoo
  have hres0 : Hid (nats8 (s.drop 0) = nats8 s) := by unfold Hid; rw [List.drop_zero]
  obtain ⟨x1, x2, x3, x4, x5⟩ := hx1
  have HX2 := Lib.hid (HX1.out.below hb2)
  have Hb2 := Lib.hid hb2
  have Hw2 := Lib.hid hw2
  have Hz1 := Lib.hid hz1
  clear hcall ho2 hb2 hw2 hz1 hs20
  go_enter Tryd.func16, Tryd.ntmps16
  go_upto_region 1 with fail
  rw [← hw1]
  clear hw1
  go_wp2_with fail
  rw [← Hw2.out]
  clear Hw2
  refine Hcall.out.mono ?_
  rintro e w3 ⟨hb3, ao, len, cap, fi, nx, rfl, hres⟩
  have hs3 := hb3.size
  have hb13 := Hb2.out.trans (hb3.mono hs2)
  have hx3 := HX2.out.below hb3
  rw [hres0.out] at hres
  clear Hcall x1 x2 x3 x4
  obtain ⟨w4, hw4, p1, p2, hb4, hs4⟩ := new_two w3 (.int .i64 fi) (.slice ao len cap) 37
  have hx4 := hx3.below hb4
  have hb14 := hb13.trans (hb4.mono (by omega))
  have hs14 := hb14.size
  have Hb4 := Lib.hid (Hb1.out.trans (hb14.mono (by omega)))
  have Hr4 := Lib.hid ((Hr1.out.below (w' := w4) (fun q hq => hb14.block q (by omega))).mono (show B ≤ w4.heap.size by omega))
  have Hm4 := Lib.hid ((Hm1.out.below (w' := w4) (fun q hq => hb14.block q (by omega))).mono (show B ≤ w4.heap.size by omega))
  go_upto_region 5 with fail
  rw [← hw4]
  clear hw4
  rcases hres with ⟨t, j, rfl, _, hjs, hra, hlen, hfi, hown⟩ | ⟨rfl, rfl, hrn⟩
  case inr =>
    have Hon : Hid (o = none) := by unfold Hid; rw [Hoo.out]; exact readF_none hrn
    have hne : ((-1 : Int) != (s.length : Int)) = true := by rw [bne_iff_ne]; omega
    clear hrn p1 p2 hx3 hb3 hb13 hb4 hb14
    obtain ⟨w6, e6, hx6, hout⟩ := Hno.out w4 hx4 Hb4.out
    have E6 := Lib.hid e6
    have Hout : Hid (FindOut (foundS o) (foundG o) o.isSome w (.returned (.tuple #[.agg #[.int .i64 0, .slice none 0 0], .bool false])) w6) := by unfold Hid; rw [Hon.out, hfs, hfg]; exact hout
    obtain ⟨y1, y2, y3, y4, y5⟩ := hx4
    clear e6 hout hfs hfg
    go_wp2
    rw [← E6.out]
    obtain ⟨z1, z2, _⟩ := hx6
    exact bodyPost_ret (by simp [results, Tryd.results16, go_sem, z1, z2]) rfl Hout.out
  have hn0 : ([] : List Sp3).length = 0 := rfl
  rw [hn0] at hra hlen hfi hown
  by_cases hjl : j < s.length
  · have Hon : Hid (o = none) := by unfold Hid; rw [Hoo.out]; exact readF_more hra (nats8_nil hjl)
    have hne : ((j : Int) != (s.length : Int)) = true := by rw [bne_iff_ne]; omega
    clear hra hlen hfi hown p1 p2 hx3 hb3 hb13 hb4 hb14 hjl hjs
    obtain ⟨w6, e6, hx6, hout⟩ := Hno.out w4 hx4 Hb4.out
    have E6 := Lib.hid e6
    have Hout : Hid (FindOut (foundS o) (foundG o) o.isSome w (.returned (.tuple #[.agg #[.int .i64 0, .slice none 0 0], .bool false])) w6) := by unfold Hid; rw [Hon.out, hfs, hfg]; exact hout
    obtain ⟨y1, y2, y3, y4, y5⟩ := hx4
    clear e6 hout hfs hfg
    go_wp2
    rw [← E6.out]
    obtain ⟨z1, z2, _⟩ := hx6
    exact bodyPost_ret (by simp [results, Tryd.results16, go_sem, z1, z2]) rfl Hout.out
  · obtain rfl : j = s.length := by omega
    rw [nats8_end (Nat.le_refl _)] at hra
    obtain ⟨hsame, hread⟩ := read_same (p := p) (s := qs.map (·.2)) (ms := ms) hl hra
    have htx := text_read _ _ _ _ _ hra
    have hsz := htx.2.2 (by omega)
    rw [List.nil_append] at hlen hown
    subst hlen hfi
    have hS64 : S64 (t.flat 0) := flat_S64 t 0 htx.2.1 (by omega)
    have hrd := RdSplits.of_own hown hS64
    have hrd4 := (hrd.below hb4.block).mono (show w3.heap.size ≤ w4.heap.size by omega)
    have Hown4 := Lib.hid (own_below hown hb4)
    have hptx := specProofText p (t.tgt 0) qs ms (t.flat 0) w4.heap.size v u (.slice ao (t.flat 0).length cap) w4 Hr4.out Hm4.out hrd4 (Nat.le_refl _)
    have Hptx := Lib.hid hptx
    have Hoo' : Hid (o = if provesF p (qs.map (·.2)) ms (t.flat 0) (t.tgt 0) = true then some t else none) := by unfold Hid; rw [Hoo.out, hread]
    have hpp := (hx4.2.2.2.2)
    have hfst : foundS (some t) = t.flat 0 := by unfold foundS; rfl
    have hfgt : foundG (some t) = t.tgt 0 := by unfold foundG; rfl
    have hss : ((t.flat 0).length : Nat) ≤ 15 := by rw [PT.flat_len]; omega
    have hg3 : w3.heap.size < w4.heap.size := by omega
    have HXw4 := Lib.hid hx4
    have Hfst := Lib.hid hfst
    have Hfgt := Lib.hid hfgt
    clear hra hread htx hsz hS64 hrd hrd4 hptx hx3 hb3 hb13 hb4 hb14 hown hfst hfgt hpp hx4
    generalize hX : provesF p (qs.map (·.2)) ms (t.flat 0) (t.tgt 0) = X at *
    clear hX
    generalize tbF p (qs.map (·.2)) ms (t.flat 0) (t.tgt 0) = tb at *
    generalize t.tgt 0 = fi at *
    generalize hLL : (t.flat 0).length = L at *
    go_wp2_with fail
    refine Hptx.out.mono ?_
    rintro e w5 ⟨rfl, hb5⟩
    have hx5 := HXw4.out.below hb5
    have hb05 := Hb4.out.trans (hb5.mono (by omega))
    have t1 := (hb5.cell (p := ⟨w3.heap.size, 0, none⟩) hg3).trans p1
    have t2 := (hb5.cell (p := ⟨w3.heap.size, 1, none⟩) hg3).trans p2
    have Hown5 := Lib.hid (own_below Hown4.out hb5)
    clear hb5 p1 p2 Hptx
    by_cases hts : tb = s
    · have hX1 : X = true := hsame.1 hts
      rw [hX1, if_pos rfl] at Hoo'
      have hle : (tb == s) = true := by rw [beq_iff_eq]; exact hts
      obtain ⟨w6, e6, hx6, hout⟩ := proof_fin (sp := t.flat 0) hx5 hb05 (by rw [hLL, ← Hz1.out]; exact Hown5.out) fi true
      have E6 := Lib.hid e6
      have Hout : Hid (FindOut (foundS o) (foundG o) o.isSome w (.returned (.tuple #[.agg #[.int .i64 fi, .slice ao L cap], .bool true])) w6) := by unfold Hid; rw [Hoo'.out, Hfst.out, Hfgt.out]; exact hout
      obtain ⟨y1, y2, y3, y4, y5⟩ := hx5
      clear e6 hout hfs hfg hts hsame
      go_wp2
      rw [← E6.out]
      obtain ⟨z1, z2, _⟩ := hx6
      exact bodyPost_ret (by simp [results, Tryd.results16, go_sem, z1, z2]) rfl Hout.out
    · have hX1 : X = false := by
        cases X with
        | false => rfl
        | true => exact absurd (hsame.2 rfl) hts
      rw [hX1, if_neg (by decide)] at Hoo'
      have Hon : Hid (o = none) := Hoo'
      have hle : (tb == s) = false := by rw [beq_eq_false_iff_ne]; exact hts
      clear hts hsame t1 t2
      obtain ⟨w6, e6, hx6, hout⟩ := Hno.out w5 hx5 hb05
      have E6 := Lib.hid e6
      have Hout : Hid (FindOut (foundS o) (foundG o) o.isSome w (.returned (.tuple #[.agg #[.int .i64 0, .slice none 0 0], .bool false])) w6) := by unfold Hid; rw [Hon.out, hfs, hfg]; exact hout
      obtain ⟨y1, y2, y3, y4, y5⟩ := hx5
      clear e6 hout hfs hfg
      go_wp2
      rw [← E6.out]
      obtain ⟨z1, z2, _⟩ := hx6
      exact bodyPost_ret (by simp [results, Tryd.results16, go_sem, z1, z2]) rfl Hout.out
end Go.Proofs.YtefmoljipbbmmaaDoor
/- The reference model's draws for proofs: a story and a term that often follows. -/
namespace Go.Proofs.YtefmoljipbbmmaaDoor
open Go.RowKit Go.Joins
theorem grown_below {w w' : World} (h : Below w.heap.size w w') (row : Option Nat) : w.grownBy w' row := ⟨h.os, h.tape, h.output, h.size, fun k hk _ => h.block k hk⟩
theorem Rd.below11 {w w' : World} {b c : Nat} (h : Rd w b c) (hb : Below w.heap.size w w') : Rd w' b c := h.kept fun k hk => hb.block k (by have := h.lt; omega)
/-- a number of people, a drawn story, and a drawn row of marks -/
def DrewPP (b c : Nat) (w : World) (e : Ending) (w' : World) : Prop :=
  ∃ (p : Int) (v : Value) (qs : List QC) (g cap : Nat) (ms : List (Int × Int)), 1 ≤ p ∧ p ≤ 4 ∧ e = .returned (.tuple #[.int .i64 p, v, .slice (some ⟨g, 0, none⟩) ms.length cap]) ∧ StoryIn w' w.heap.size w.heap.size v qs ∧ QSmall qs ∧ qs.length ≤ 7 ∧
    w'.ownsRow w.heap.size TM 2 (.slice (some ⟨g, 0, none⟩) ms.length cap) ms.length (mcells ms) ∧ I64s ms ∧ ms.length ≤ 20 ∧ Rd w' b c ∧ w.grownBy w' (some b)
theorem vals_first {l : List Nat} {x : Nat} {r : List Nat} (h : l = x :: r) {w : World} {base g n cap : Nat} (ho : w.ownsRow base 3 1 (.slice (some ⟨g, 0, none⟩) n cap) n (vals l)) (hn : 0 < n) : w.cell? ⟨g, 0, none⟩ = some (.int .i64 x) := by
  rw [ho.cellAt 0 (by omega), h]
  rfl
theorem wlp_16 {p t : Int} (h1 : 1 ≤ p) (h4 : p ≤ 4) : ∀ x ∈ wlp p t, x < 16 := by
  intro x hx
  unfold wlp at hx
  split at hx
  · have := wl_all_le _ _ x hx
    have h3 : 2 ^ p.toNat ≤ 16 := two16 (by omega)
    omega
  · cases hx
attribute [local irreducible] holds tabN tabV holdsV sameV followsV alwaysV matterV claimOk mayT mayV ctabV ctabN storyV storyOk storyN storyT ctermV ctermL wlp vals
end Go.Proofs.YtefmoljipbbmmaaDoor
/- The reference model's draws for proofs: what a drawn proof rests on, step by step. -/
namespace Go.Proofs.YtefmoljipbbmmaaDoor
open Go.RowKit Go.Joins
/-- a number of people, a drawn story, a drawn row of marks, and a drawn proof -/
def DrewPQ (b c : Nat) (w : World) (e : Ending) (w' : World) : Prop :=
  ∃ (p : Int) (v : Value) (qs : List QC) (g cap : Nat) (ms : List (Int × Int)) (fi : Int) (pv : Value) (sp : List Sp3), 1 ≤ p ∧ p ≤ 4 ∧ e = .returned (.tuple #[.int .i64 p, v, .slice (some ⟨g, 0, none⟩) ms.length cap, .agg #[.int .i64 fi, pv]]) ∧ StoryIn w' w.heap.size w.heap.size v qs ∧ QSmall qs ∧ qs.length ≤ 7 ∧
    w'.ownsRow w.heap.size TM 2 (.slice (some ⟨g, 0, none⟩) ms.length cap) ms.length (mcells ms) ∧ I64s ms ∧ ms.length ≤ 20 ∧ w'.ownsRow w.heap.size TSp 3 pv sp.length (scells sp) ∧ S64 sp ∧ sp.length ≤ 16 ∧ I64 fi ∧ Rd w' b c ∧ w.grownBy w' (some b)
theorem DrewPQ.below {b c : Nat} {w w' w'' : World} {e : Ending} (h : DrewPQ b c w e w') (hb : Below w'.heap.size w' w'') : DrewPQ b c w e w'' := by
  obtain ⟨p, v, qs, g, cap, ms, fi, pv, sp, h1, h2, h3, h4, h5, h6, h7, h8, h9, h10, h11, h12, h13, h14, h15⟩ := h
  exact ⟨p, v, qs, g, cap, ms, fi, pv, sp, h1, h2, h3, h4.below hb, h5, h6, own_below h7 hb, h8, h9, own_below h10 hb, h11, h12, h13, h14.below11 hb, grownBy_trans h15 (grown_below hb (some b))⟩
theorem drew_below11 (w : World) : Below w.heap.size w w.drew := ⟨rfl, rfl, rfl, Nat.le_refl _, fun _ _ => rfl⟩
theorem news3 (W : World) (g : Nat) (hg : g = W.heap.size) (a b c : Int) : ∀ (j : Nat) (u' : Value), (scells [(a, b, c)])[j]? = some u' → (W.alloc (.cells #[.int .i64 a, .int .i64 b, .int .i64 c] TSp)).cell? ((⟨g, 0, none⟩ : Addr).add j) = some u' := by
  intro j x hj
  subst hg
  rw [add_zero11, cell_of_row _ W.heap.size j _ TSp (0, 0) (heap_alloc_new W _), ← hj]
  simp [scells]
theorem S64_snoc {sp : List Sp3} {s : Sp3} (h : S64 sp) (h1 : I64 s.1) (h2 : I64 s.2.1) (h3 : I64 s.2.2) : S64 (sp ++ [s]) := by
  intro z hz
  rcases List.mem_append.1 hz with hz | hz
  · exact h z hz
  · rw [List.mem_singleton] at hz; subst hz; exact ⟨h1, h2, h3⟩
theorem S64_set {sp : List Sp3} {s : Sp3} (h : S64 sp) (k : Nat) (h1 : I64 s.1) (h2 : I64 s.2.1) (h3 : I64 s.2.2) : S64 (sp.set k s) := by
  intro z hz
  rcases List.mem_or_eq_of_mem_set hz with hz | hz
  · exact h z hz
  · subst hz; exact ⟨h1, h2, h3⟩
theorem scells_who : ∀ (sp : List Sp3) (J : Nat), J < sp.length → ∀ z : Int, (scells sp).set (J * 3) (.int .i64 z) = scells (sp.set J (z, (sp.getD J sp0).2.1, (sp.getD J sp0).2.2))
  | [], J, h, z => by simp at h
  | m :: r, 0, _, z => by simp [scells]
  | m :: r, J + 1, h, z => by
    have ih := scells_who r J (by simpa using h) z
    rw [show (J + 1) * 3 = J * 3 + 1 + 1 + 1 by omega]
    simpa [scells] using ih
theorem scells_no : ∀ (sp : List Sp3) (J : Nat), J < sp.length → ∀ z : Int, (scells sp).set (J * 3 + 1) (.int .i64 z) = scells (sp.set J ((sp.getD J sp0).1, z, (sp.getD J sp0).2.2))
  | [], J, h, z => by simp at h
  | m :: r, 0, _, z => by simp [scells]
  | m :: r, J + 1, h, z => by
    have ih := scells_no r J (by simpa using h) z
    rw [show (J + 1) * 3 + 1 = J * 3 + 1 + 1 + 1 + 1 by omega]
    simpa [scells] using ih
theorem S64_at {sp : List Sp3} (h : S64 sp) (J : Nat) (hJ : J < sp.length) : I64 (sp.getD J sp0).1 ∧ I64 (sp.getD J sp0).2.1 ∧ I64 (sp.getD J sp0).2.2 := by
  have e : sp.getD J sp0 = sp[J] := by simp [List.getD, hJ]
  rw [e]; exact h _ (List.getElem_mem hJ)
/-- what lies while a proof is drawn: A is the world in which the story lay, G the block of the proof's variable -/
def St11 (w A : World) (b G : Nat) (v : Value) (qs : List QC) (g cap : Nat) (ms : List (Int × Int)) (c : Nat) (fi : Int) (pv : Value) (sp : List Sp3) (W : World) : Prop :=
  StoryIn A (w.heap.size + 1) (w.heap.size + 1) v qs ∧ A.grownBy W (some b) ∧ w.heap.size + 1 ≤ A.heap.size ∧ A.heap.size ≤ G ∧
    W.ownsRow (w.heap.size + 1) TM 2 (.slice (some ⟨g, 0, none⟩) ms.length cap) ms.length (mcells ms) ∧ g ≠ G ∧
    W.ownsRow A.heap.size TSp 3 pv sp.length (scells sp) ∧ pv.ownBlock ≠ some G ∧ pv.ownBlock ≠ some g ∧
    Box W w.heap.size (.int .i64 0) (.slice none 0 0) ∧ Box W G (.int .i64 fi) pv ∧ Rd W b c ∧ w.grownBy W (some b) ∧ b < w.heap.size
section
variable {w A W W' : World} {b G : Nat} {v : Value} {qs : List QC} {g cap : Nat} {ms : List (Int × Int)} {c c' : Nat} {fi : Int} {pv : Value} {sp : List Sp3}
theorem St11.size (h : St11 w A b G v qs g cap ms c fi pv sp W) : w.heap.size < W.heap.size ∧ G < W.heap.size ∧ A.heap.size ≤ W.heap.size := by
  obtain ⟨_, h2, h3, _, _, _, _, _, _, h10, h11, _⟩ := h
  exact ⟨h10.2.2.2.2, h11.2.2.2.2, h2.size⟩
theorem St11.boxes (h : St11 w A b G v qs g cap ms c fi pv sp W) : Box W w.heap.size (.int .i64 0) (.slice none 0 0) ∧ Box W G (.int .i64 fi) pv ∧ Rd W b c ∧ w.heap.size < A.heap.size ∧ A.heap.size ≤ G ∧ W.ownsRow A.heap.size TSp 3 pv sp.length (scells sp) := by
  obtain ⟨_, _, h3, h4, _, _, h7, _, _, h10, h11, h12, _⟩ := h
  exact ⟨h10, h11, h12, by omega, h4, h7⟩
theorem St11.story (h : St11 w A b G v qs g cap ms c fi pv sp W) : StoryIn W (w.heap.size + 1) (w.heap.size + 1) v qs := by
  obtain ⟨h1, h2, _, _, _, _, _, _, _, _, _, _, _, h14⟩ := h
  exact h1.row h2 (by omega) (by omega)
/-- after a drawn number -/
theorem St11.pick (h : St11 w A b G v qs g cap ms c fi pv sp W) (hg : W.grownBy W' (some b)) (hr : Rd W' b c') : St11 w A b G v qs g cap ms c' fi pv sp W' := by
  obtain ⟨h1, h2, h3, h4, h5, h6, h7, h8, h9, h10, h11, h12, h13, h14⟩ := h
  refine ⟨h1, grownBy_trans h2 hg, h3, h4, own_row h5 hg (by omega), h6, own_row h7 hg (by omega), h8, h9, h10.grown hg (by intro e; cases e; omega), h11.grown hg (by intro e; cases e; omega), hr, grownBy_trans h13 hg, h14⟩
/-- after something that changes nothing below -/
theorem St11.below (h : St11 w A b G v qs g cap ms c fi pv sp W) (hb : Below W.heap.size W W') : St11 w A b G v qs g cap ms c fi pv sp W' :=
  h.pick (grown_below hb (some b)) (by obtain ⟨_, _, _, _, _, _, _, _, _, _, _, h12, _⟩ := h; exact h12.below11 hb)
theorem St11.cmono (h : St11 w A b G v qs g cap ms c fi pv sp W) (hc : c ≤ c') : St11 w A b G v qs g cap ms c' fi pv sp W := by
  obtain ⟨h1, h2, h3, h4, h5, h6, h7, h8, h9, h10, h11, h12, h13, h14⟩ := h
  exact ⟨h1, h2, h3, h4, h5, h6, h7, h8, h9, h10, h11, h12.mono hc, h13, h14⟩
theorem own_other {w' w'' : World} {base size n x : Nat} {e : TypeId} {u : Value} {xs : List Value} (h : w'.ownsRow base e size u n xs) (hg : w'.grownBy w'' (some x)) (hne : u.ownBlock ≠ some x) : w''.ownsRow base e size u n xs := by
  refine h.kept hg ?_
  cases hv : u.ownBlock with
  | none => exact .inl rfl
  | some y => right; intro he; cases he; exact hne hv
theorem own_some (g n cap : Nat) : (Value.slice (some ⟨g, 0, none⟩) n cap).ownBlock = some g := rfl
/-- after the proof's first target was set -/
theorem St11.setFi (h : St11 w A b G v qs g cap ms c fi pv sp W) (z : Int) : St11 w A b G v qs g cap ms c z pv sp (W.setCell ⟨G, 0, none⟩ (.int .i64 z)) := by
  obtain ⟨h1, h2, h3, h4, h5, h6, h7, h8, h9, h10, h11, h12, h13, h14⟩ := h
  obtain ⟨W1, e1, hx, hg⟩ := h11.set0 (.int .i64 z)
  rw [← e1]
  refine ⟨h1, grown_own h2 hg (by intro k hk; cases hk; exact h4), h3, h4, own_other h5 hg (by rw [own_some]; intro e; cases e; exact h6 rfl), h6, own_other h7 hg h8, h8, h9, h10.grown hg (by intro e; cases e; omega), hx, h12.grown hg (by intro k hk; cases hk; omega), grown_own h13 hg (by intro k hk; cases hk; omega), h14⟩
/-- after the proof's splits were changed in place -/
theorem St11.setRow (h : St11 w A b G v qs g cap ms c fi pv sp W) {sp' : List Sp3} (hl : sp'.length = sp.length) {x : Nat} (hx : pv.ownBlock = some x) (hg : W.grownBy W' (some x)) (ho : W'.ownsRow A.heap.size TSp 3 pv sp.length (scells sp')) : St11 w A b G v qs g cap ms c fi pv sp' W' := by
  obtain ⟨h1, h2, h3, h4, h5, h6, h7, h8, h9, h10, h11, h12, h13, h14⟩ := h
  have hxA := (h7.lt x hx).1
  refine ⟨h1, grown_own h2 hg (by intro k hk; cases hk; exact hxA), h3, h4, own_other h5 hg (by rw [own_some]; intro e; cases e; exact h9 hx), h6, by rw [hl]; exact ho, h8, h9, h10.grown hg (by intro e; cases e; omega), h11.grown hg (by intro e; cases e; exact h8 hx), h12.grown hg (by intro k hk; cases hk; omega), grown_own h13 hg (by intro k hk; cases hk; omega), h14⟩
/-- after a new row of one mark, and a new proof -/
theorem St11.redo (h : St11 w A b G v qs g cap ms c fi pv sp W) {W5 W6 : World} {x y : Int} (h5 : W5 = W.alloc (.cells #[.int .i64 x, .int .i64 y] TM)) (hb : Below W5.heap.size W5 W6) {pv2 : Value} {sp2 : List Sp3} (ho : W6.ownsRow W5.heap.size TSp 3 pv2 sp2.length (scells sp2)) (fi2 : Int) :
    St11 w A b G v qs W.heap.size 1 [(x, y)] c fi2 pv2 sp2 ((W6.setCell ⟨G, 0, none⟩ (.int .i64 fi2)).setCell ⟨G, 1, none⟩ pv2) ∧ Box W6 G (.int .i64 fi) pv := by
  have hb5 : Below W.heap.size W W5 := by rw [h5]; exact (Below.refl _ _).alloc (Nat.le_refl _) _
  have hz5 : W5.heap.size = W.heap.size + 1 := by rw [h5]; simp
  have hn5 : W5.ownsRow W.heap.size TM 2 (.slice (some ⟨W.heap.size, 0, none⟩) 1 1) 1 (mcells [(x, y)]) := by rw [h5]; exact own_new W _ x y (Nat.le_refl _)
  have hsz := h.size
  have h' := h.below (hb5.trans (hb.mono hb5.size))
  obtain ⟨h1, h2, h3, h4, _, _, _, _, _, h10, h11, h12, h13, h14⟩ := h'
  obtain ⟨W1, e1, hx, hg⟩ := h11.set (.int .i64 fi2) pv2
  have hn6 := own_below hn5 hb
  rw [← e1]
  refine ⟨⟨h1, grown_own h2 hg (by intro k hk; cases hk; exact h4), h3, h4, own_mono (own_other hn6 hg (by rw [own_some]; intro e; cases e; omega)) (by omega), by omega, own_mono (own_other ho hg (by intro e; have := (ho.lt _ e).1; omega)) (by omega), by intro e; have := (ho.lt _ e).1; omega, by intro e; have := (ho.lt _ e).1; omega, h10.grown hg (by intro e; cases e; omega), hx, h12.grown hg (by intro k hk; cases hk; omega), grown_own h13 hg (by intro k hk; cases hk; omega), h14⟩, h11⟩
/-- after who splits at a place was set -/
theorem St11.setWho {L po pcap : Nat} (h : St11 w A b G v qs g cap ms c fi (.slice (some ⟨po, 0, none⟩) L pcap) sp W) (hL : sp.length = L) (hs : S64 sp) {J : Nat} (hJ : J < L) {z : Int} (hz : I64 z) :
    ∃ sp', sp'.length = L ∧ S64 sp' ∧ St11 w A b G v qs g cap ms c fi (.slice (some ⟨po, 0, none⟩) L pcap) sp' (W.setCell ⟨po, J * 3, none⟩ (.int .i64 z)) := by
  obtain ⟨_, _, _, _, _, h7⟩ := h.boxes
  rw [hL] at h7
  obtain ⟨h1, h2⟩ := h7.stored (J * 3) (.int .i64 z)
  rw [scells_who sp J (by omega) z] at h1
  obtain ⟨i1, i2, i3⟩ := S64_at hs J (by omega)
  exact ⟨sp.set J (z, (sp.getD J sp0).2.1, (sp.getD J sp0).2.2), by rw [List.length_set]; exact hL, S64_set hs J hz i2 i3, h.setRow (by rw [List.length_set]) rfl h2 (by rw [hL]; exact h1)⟩
/-- after where the first case of a split goes on to was set -/
theorem St11.setNo {L po pcap : Nat} (h : St11 w A b G v qs g cap ms c fi (.slice (some ⟨po, 0, none⟩) L pcap) sp W) (hL : sp.length = L) (hs : S64 sp) {J : Nat} (hJ : J < L) {z : Int} (hz : I64 z) :
    ∃ sp', sp'.length = L ∧ S64 sp' ∧ St11 w A b G v qs g cap ms c fi (.slice (some ⟨po, 0, none⟩) L pcap) sp' (W.setCell ⟨po, J * 3 + 1, none⟩ (.int .i64 z)) := by
  obtain ⟨_, _, _, _, _, h7⟩ := h.boxes
  rw [hL] at h7
  obtain ⟨h1, h2⟩ := h7.stored (J * 3 + 1) (.int .i64 z)
  rw [scells_no sp J (by omega) z] at h1
  obtain ⟨i1, i2, i3⟩ := S64_at hs J (by omega)
  exact ⟨sp.set J ((sp.getD J sp0).1, z, (sp.getD J sp0).2.2), by rw [List.length_set]; exact hL, S64_set hs J i1 hz i3, h.setRow (by rw [List.length_set]) rfl h2 (by rw [hL]; exact h1)⟩
/-- after the proof's splits were replaced by a row that was grown out of them -/
theorem St11.setSp (h : St11 w A b G v qs g cap ms c fi pv sp W) {sp' : List Sp3} {pv' : Value} {o : Obj} (hg : (W.alloc o).grownBy W' pv.ownBlock) (ho : W'.ownsRow A.heap.size TSp 3 pv' sp'.length (scells sp')) (hat : pv'.ownBlock = pv.ownBlock ∨ pv'.ownBlock = some (W.alloc o).heap.size) :
    St11 w A b G v qs g cap ms c fi pv' sp' (W'.setCell ⟨G, 1, none⟩ pv') ∧ Box W' G (.int .i64 fi) pv := by
  have hb : Below W.heap.size W (W.alloc o) := (Below.refl _ _).alloc (Nat.le_refl _) _
  have h' := h.below hb
  have hsz := h.size
  obtain ⟨h1, h2, h3, h4, h5, h6, h7, h8, h9, h10, h11, h12, h13, h14⟩ := h'
  have hgs := (h5.lt g rfl).2
  have k2 := grown_own h2 hg (fun k hk => (h7.lt k hk).1)
  have k5 := h5.kept hg (by
    right
    rw [own_some]
    exact fun e => h9 e.symm)
  have k10 := h10.grown hg (fun e => by have := (h7.lt _ e).1; omega)
  have k11 := h11.grown hg h8
  have k12 := h12.grown hg (fun k hk => by have := (h7.lt k hk).1; omega)
  have k13 := grown_own h13 hg (fun k hk => by have := (h7.lt k hk).1; omega)
  have hgn : g < W.heap.size := by
    obtain ⟨_, _, _, _, q5, _⟩ := h
    exact (q5.lt g rfl).2
  have n1 : pv'.ownBlock ≠ some G := by
    rcases hat with e | e
    · rw [e]; exact h8
    · rw [e]; intro q; cases q; simp at hsz; omega
  have n2 : pv'.ownBlock ≠ some g := by
    rcases hat with e | e
    · rw [e]; exact h9
    · rw [e]; intro q; cases q; simp at hgn; omega
  obtain ⟨W1, e1, hx, hg1⟩ := k11.set1 pv'
  rw [← e1]
  refine ⟨⟨h1, grown_own k2 hg1 (by intro k hk; cases hk; exact h4), h3, h4, own_other k5 hg1 (by rw [own_some]; intro e; cases e; exact h6 rfl), h6, own_other ho hg1 n1, n1, n2, k10.grown hg1 (by intro e; cases e; omega), hx, k12.grown hg1 (by intro k hk; cases hk; omega), grown_own k13 hg1 (by intro k hk; cases hk; omega), h14⟩, k11⟩
theorem st11_new (h1 : StoryIn A (w.heap.size + 1) (w.heap.size + 1) v qs) (h2 : A.grownBy W (some b)) (h3 : w.heap.size + 1 ≤ A.heap.size) (h4 : A.heap.size ≤ G) (h5 : W.ownsRow (w.heap.size + 1) TM 2 (.slice (some ⟨g, 0, none⟩) ms.length cap) ms.length (mcells ms)) (h6 : g ≠ G)
    (h7 : W.ownsRow A.heap.size TSp 3 pv sp.length (scells sp)) (h8 : pv.ownBlock ≠ some G) (h9 : pv.ownBlock ≠ some g) (h10 : Box W w.heap.size (.int .i64 0) (.slice none 0 0)) (h11 : Box W G (.int .i64 fi) pv) (h12 : Rd W b c) (h13 : w.grownBy W (some b)) (h14 : b < w.heap.size) :
    St11 w A b G v qs g cap ms c fi pv sp W := ⟨h1, h2, h3, h4, h5, h6, h7, h8, h9, h10, h11, h12, h13, h14⟩
/-- what is handed back -/
theorem St11.done (h : St11 w A b G v qs g cap ms c fi pv sp W) {p : Int} (hp1 : 1 ≤ p) (hp4 : p ≤ 4) (hqs : QSmall qs) (hq7 : qs.length ≤ 7) (hi : I64s ms) (hn : ms.length ≤ 20) (hs : S64 sp) (hl : sp.length ≤ 16) (hf : I64 fi) :
    ∃ W', W' = (W.setCell ⟨w.heap.size, 0, none⟩ (.int .i64 fi)).setCell ⟨w.heap.size, 1, none⟩ pv ∧ Box W' w.heap.size (.int .i64 fi) pv ∧ Box W' G (.int .i64 fi) pv ∧ DrewPQ b c w (.returned (.tuple #[.int .i64 p, v, .slice (some ⟨g, 0, none⟩) ms.length cap, .agg #[.int .i64 fi, pv]])) W' := by
  obtain ⟨h1, h2, h3, h4, h5, h6, h7, h8, h9, h10, h11, h12, h13, h14⟩ := h
  obtain ⟨W1, e1, hx, hg⟩ := h10.set (.int .i64 fi) pv
  refine ⟨W1, e1, hx, h11.grown hg (by intro e; cases e; omega), p, v, qs, g, cap, ms, fi, pv, sp, hp1, hp4, rfl, ((h1.row h2 (by omega) (by omega)).row hg (by omega) (by omega)).mono (by omega) (by omega), hqs, hq7, own_mono (own_row h5 hg (by omega)) (by omega), hi, hn, own_mono (own_row h7 hg (by omega)) (by omega), hs, hl, hf, h12.grown hg (by intro k hk; cases hk; omega), grown_own h13 hg (by intro k hk; cases hk; omega)⟩
end
end Go.Proofs.YtefmoljipbbmmaaDoor
/- Contracts of the reference's stories with one answer: needless claims. -/
namespace Go.Proofs.YtefmoljipbbmmaaDoor
open Go.RowKit Go.Joins
attribute [local irreducible] holds tabN tabV holdsV sameV followsV alwaysV matterV claimOk mayT mayV ctabV ctabN storyV storyOk storyN storyT ctermV ctermL clashV onlyOk onlyN knownF knownL knownK cntK swl needL leastR leastV ccells
theorem RdStory.cells_at {w w' : World} {B b off n cap : Nat} {qs : List QC} (h : RdStory w B (.slice (some ⟨b, off, none⟩) n cap) qs) (hb : ∀ k, k < B → w'.heap[k]? = w.heap[k]?) : ∀ (j : Nat) (u : Value), (ccells qs)[j]? = some u → w'.cell? ((⟨b, off, none⟩ : Addr).add j) = some u := (h.below hb).cells
end Go.Proofs.YtefmoljipbbmmaaDoor

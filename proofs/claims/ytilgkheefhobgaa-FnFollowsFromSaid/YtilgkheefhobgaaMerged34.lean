/- Texts of a proof, merged: PfD, PfE, PfF, ProofI, OneA. -/
import Derived.Test.YtilgkheefhobgaaPfC
import Derived.Test.YtilgkheefhobgaaTruthI
import Derived.Test.YtilgkheefhobgaaMerged6
import Derived.Test.YtilgkheefhobgaaDrawPu
import Derived.Test.YtilgkheefhobgaaMerged27
import Derived.Test.YtilgkheefhobgaaPfO
import Derived.Test.YtilgkheefhobgaaOneU
import Derived.Test.YtilgkheefhobgaaMerged29
import Derived.Deep.AppendLies
/- Contracts of the program's proofs by cases: what follows. -/
namespace Go.Proofs.Ytilgkheefhobgaa
open Go.RowKit Go.Joins
attribute [local irreducible] holds tabN tabV holdsV sameV followsV alwaysV matterV claimOk mayT mayV ctabV ctabN storyV storyOk storyN storyT ctermV ctermL clT intsN agreeN closeB closeT hfV clL walkF KnOk ProvesOut followsF provesF
set_option maxRecDepth 100000 in
set_option maxHeartbeats 2000000 in
theorem implFollowsFrom (p : Int) (qs : List QC) (ms : List (Int × Int)) (B : Nat) (v u : Value) (w : World) (hr : RdStory w B v qs) (hr' : RdMarks w B u ms) (hB : B ≤ w.heap.size) :
    Calls Try.prog 8 #[.int .i64 p, v, u] w fun e w' => e = .returned (.bool (followsF p (qs.map (·.2)) ms)) ∧ Below w.heap.size w w' := by
  have Hso := Lib.hid (fun w h hB => implStoryOk p qs B v w h hB)
  have Hto := Lib.hid (fun w h hB => implTermOk p ms B u w h hB)
  have Hr := Lib.hid hr
  have Hm := Lib.hid hr'
  clear hr hr'
  obtain ⟨wo, rfl⟩ : ∃ wo : World, wo = w := ⟨_, rfl⟩
  cases hok : storyOk p (qs.map (·.2)) with
  | false =>
    have Hf := Lib.hid (followsF_no1 (ms := ms) hok)
    rw [hok] at Hso
    clear hok
    go_enter Try.func8, Try.ntmps8
    go_wp2_with fail
    refine (Hso.out _ Hr.out hB).mono ?_
    rintro e w2 ⟨rfl, hb2⟩
    have Hb2 := Lib.hid hb2; clear hb2
    go_wp2
    go_ret
    exact ⟨by rw [Hf.out]; rfl, Hb2.out⟩
  | true =>
  cases ht : termOk p ms with
  | false =>
    have Hf := Lib.hid (followsF_no2 (s := qs.map (·.2)) ht)
    rw [hok] at Hso
    rw [ht] at Hto
    clear hok ht
    go_enter Try.func8, Try.ntmps8
    go_wp2_with fail
    refine (Hso.out _ Hr.out hB).mono ?_
    rintro e w2 ⟨rfl, hb2⟩
    have hB2 : B ≤ w2.heap.size := Nat.le_trans hB hb2.size
    have Hm2 := Lib.hid (Hm.out.below (w' := w2) (fun q hq => hb2.block q (by omega)))
    have Hb2 := Lib.hid hb2; clear hb2
    go_wp2_with fail
    refine (Hto.out _ Hm2.out hB2).mono ?_
    rintro e w3 ⟨rfl, hb3⟩
    have Hb3 := Lib.hid (Hb2.out.trans (hb3.mono Hb2.out.size)); clear hb3
    go_wp2
    go_ret
    exact ⟨by rw [Hf.out]; rfl, Hb3.out⟩
  | true =>
    have hp := p_of ht
    have Hf := Lib.hid (follows_tab hok ht)
    have hnot := bits_andNot_nat (storyN p (qs.map (·.2))) (tabN p ms) (by have := storyN_lt (s := qs.map (·.2)) hp.1 hp.2; omega) (by have := tabN_lt ht; omega)
    have Hst := Lib.hid (fun w h hB => implStoryTable p qs B v w h hB)
    have Htt := Lib.hid (fun w h hB => implTableOf p ms B u w h hB)
    rw [storyV_yes hok] at Hst
    rw [tabV_N ht] at Htt
    rw [hok] at Hso
    rw [ht] at Hto
    clear hok ht hp
    generalize storyN p (qs.map (·.2)) = X at *
    generalize tabN p ms = Y at *
    generalize X ^^^ (X &&& Y) = Z at *
    go_enter Try.func8, Try.ntmps8
    go_wp2_with fail
    refine (Hso.out _ Hr.out hB).mono ?_
    rintro e w2 ⟨rfl, hb2⟩
    have hB2 : B ≤ w2.heap.size := Nat.le_trans hB hb2.size
    have Hm2 := Lib.hid (Hm.out.below (w' := w2) (fun q hq => hb2.block q (by omega)))
    have Hr2 := Lib.hid (Hr.out.below (w' := w2) (fun q hq => hb2.block q (by omega)))
    have Hb2 := Lib.hid hb2; clear hb2
    go_wp2_with fail
    refine (Hto.out _ Hm2.out hB2).mono ?_
    rintro e w3 ⟨rfl, hb3⟩
    have hB3 : B ≤ w3.heap.size := Nat.le_trans hB2 hb3.size
    have Hm3 := Lib.hid (Hm2.out.below (w' := w3) (fun q hq => hb3.block q (by omega)))
    have Hr3 := Lib.hid (Hr2.out.below (w' := w3) (fun q hq => hb3.block q (by omega)))
    have Hb3 := Lib.hid (Hb2.out.trans (hb3.mono Hb2.out.size)); clear hb3
    go_wp2_with fail
    refine (Hst.out _ Hr3.out hB3).mono ?_
    rintro e w4 ⟨rfl, hb4⟩
    have hB4 : B ≤ w4.heap.size := Nat.le_trans hB3 hb4.size
    have Hm4 := Lib.hid (Hm3.out.below (w' := w4) (fun q hq => hb4.block q (by omega)))
    have Hb4 := Lib.hid (Hb3.out.trans (hb4.mono Hb3.out.size)); clear hb4
    go_wp2_with fail
    refine (Htt.out _ Hm4.out hB4).mono ?_
    rintro e w5 ⟨rfl, hb5⟩
    have Hb5 := Lib.hid (Hb4.out.trans (hb5.mono Hb4.out.size)); clear hb5
    go_wp2
    go_ret
    exact ⟨by rw [Hf.out]; first | rfl | simp, Hb5.out⟩
end Go.Proofs.Ytilgkheefhobgaa
/- Contracts of the program's proofs by cases: what is found. -/
namespace Go.Proofs.Ytilgkheefhobgaa
open Go.RowKit Go.Joins
theorem news3f {w1 : World} {g : Nat} {a b c : Value} {T : TypeId} {w : World} (h : w1 = w.alloc (.cells #[a, b, c] T)) (hg : g = w.heap.size) : ∀ (j : Nat) (u : Value), ([a, b, c] : List Value)[j]? = some u → w1.cell? ((⟨g, 0, none⟩ : Addr).add j) = some u := by
  intro j u hj
  subst h; subst hg
  rw [add_zero11, cell_of_row _ w.heap.size j _ T (0, 0) (heap_alloc_new w _), ← hj]
  simp
/-- what is grown, told by what closes a case first -/
theorem first_leaf {P T : Nat} {Z : List Nat} {hf : Nat → Bool} {cl : List (Nat → Bool)} (hcl : ∀ (g : Int) (kn : List Int), g < 0 → closeB P hf cl g kn = closeT (agreeN P kn) T Z g) (hl : cl.length = Z.length) {f : Nat} {kn : List Int} {t : PT} {g : Int} (h : growT P hf cl f kn = some t) (hF : firstT (agreeN P kn) T Z = some g) : t = .leaf g := by
  unfold growT at h
  unfold firstT at hF
  rw [hcl (-1) kn (by omega)] at h
  split at hF
  · rename_i hc
    rw [if_pos hc] at h
    cases h; cases hF; rfl
  · rename_i hc
    rw [if_neg hc] at h
    have e : clashF P hf cl kn = (List.range Z.length).find? fun k : Nat => closeT (agreeN P kn) T Z (-2 - (k : Int)) := by
      unfold clashF
      rw [hl]
      congr 1
      funext k
      exact hcl _ kn (by omega)
    rw [e] at h
    cases hk : (List.range Z.length).find? fun k : Nat => closeT (agreeN P kn) T Z (-2 - (k : Int)) with
    | none => rw [hk] at hF; cases hF
    | some k =>
      rw [hk] at h hF
      cases h; cases hF; rfl
theorem first_node {P T : Nat} {Z : List Nat} {hf : Nat → Bool} {cl : List (Nat → Bool)} (hcl : ∀ (g : Int) (kn : List Int), g < 0 → closeB P hf cl g kn = closeT (agreeN P kn) T Z g) (hl : cl.length = Z.length) {f : Nat} {kn : List Int} {t : PT} (h : growT P hf cl f kn = some t) (hF : firstT (agreeN P kn) T Z = none) :
    ∃ (f' k : Nat) (a b : PT), f = f' + 1 ∧ leastU P kn = some k ∧ growT P hf cl f' (kn.set k 0) = some a ∧ growT P hf cl f' (kn.set k 1) = some b ∧ t = .node k a b := by
  unfold growT at h
  unfold firstT at hF
  rw [hcl (-1) kn (by omega)] at h
  split at hF
  · cases hF
  · rename_i hc
    rw [if_neg hc] at h
    have e : clashF P hf cl kn = (List.range Z.length).find? fun k : Nat => closeT (agreeN P kn) T Z (-2 - (k : Int)) := by
      unfold clashF
      rw [hl]
      congr 1
      funext k
      exact hcl _ kn (by omega)
    rw [e] at h
    cases hk : (List.range Z.length).find? fun k : Nat => closeT (agreeN P kn) T Z (-2 - (k : Int)) with
    | some k => rw [hk] at hF; cases hF
    | none =>
      rw [hk] at h
      dsimp only at h
      cases hu : leastU P kn with
      | none => rw [hu] at h; cases h
      | some k =>
        rw [hu] at h
        dsimp only at h
        cases f with
        | zero => cases h
        | succ f' =>
          dsimp only at h
          cases ha : growT P hf cl f' (kn.set k 0) with
          | none => rw [ha] at h; cases h
          | some a =>
            cases hb : growT P hf cl f' (kn.set k 1) with
            | none => rw [ha, hb] at h; cases h
            | some b =>
              rw [ha, hb] at h
              cases h
              exact ⟨f', k, a, b, rfl, rfl, ha, hb, rfl⟩
theorem grow_final {sp : List Sp3} {k : Nat} {a b : PT} : (sp ++ [((k : Int), 0, 0)] ++ a.flat (sp ++ [((k : Int), (0 : Int), (0 : Int))]).length ++ b.flat (sp ++ [((k : Int), (0 : Int), (0 : Int))] ++ a.flat (sp ++ [((k : Int), (0 : Int), (0 : Int))]).length).length).set sp.length ((k : Int), a.tgt (sp ++ [((k : Int), (0 : Int), (0 : Int))]).length, b.tgt (sp ++ [((k : Int), (0 : Int), (0 : Int))] ++ a.flat (sp ++ [((k : Int), (0 : Int), (0 : Int))]).length).length) = sp ++ (PT.node k a b).flat sp.length := by
  have h1 : (sp ++ [((k : Int), (0 : Int), (0 : Int))]).length = sp.length + 1 := by simp
  have h2 : (sp ++ [((k : Int), (0 : Int), (0 : Int))] ++ a.flat (sp ++ [((k : Int), (0 : Int), (0 : Int))]).length).length = sp.length + 1 + a.size := by rw [List.length_append, PT.flat_len, h1]
  rw [h2, h1]
  have e : sp ++ [((k : Int), (0 : Int), (0 : Int))] ++ a.flat (sp.length + 1) ++ b.flat (sp.length + 1 + a.size) = sp ++ ((k : Int), (0 : Int), (0 : Int)) :: (a.flat (sp.length + 1) ++ b.flat (sp.length + 1 + a.size)) := by simp
  rw [e, set_at rfl]
  rfl
theorem scells_one3 (a b c : Int) : scells [(a, b, c)] = [.int .i64 a, .int .i64 b, .int .i64 c] := rfl
/-- all are known ahead of a person, and nobody from there on -/
def UpTo (P : Nat) (kn : List Int) (k : Nat) : Prop := k ≤ P ∧ (∀ j, j < k → ¬ kn.getD j 0 < 0) ∧ ∀ j, k ≤ j → j < P → kn.getD j 0 < 0
theorem UpTo.none (P : Nat) : UpTo P (noneK P) 0 := ⟨Nat.zero_le _, fun j hj => by omega, fun j _ hj => by rw [noneK_get hj]; decide⟩
theorem UpTo.next {P : Nat} {kn : List Int} {k : Nat} (h : UpTo P kn k) (hl : kn.length = P) (hk : k < P) {z : Int} (hz : 0 ≤ z) : UpTo P (kn.set k z) (k + 1) := by
  refine ⟨hk, fun j hj => ?_, fun j h1 h2 => ?_⟩
  · rw [getD_set (by omega)]
    split
    · omega
    · exact h.2.1 j (by omega)
  · rw [getD_set (by omega), if_neg (by omega)]
    exact h.2.2 j (by omega) h2
theorem UpTo.least {P : Nat} {kn : List Int} {k j : Nat} (h : UpTo P kn k) (hj : leastU P kn = some j) : j = k ∧ k < P := by
  by_cases hk : k < P
  · rw [least_first hk h.2.1 (h.2.2 k (Nat.le_refl _) hk)] at hj
    cases hj; exact ⟨rfl, hk⟩
  · rw [least_all11 (fun i hi => h.2.1 i (by omega))] at hj
    cases hj
/-- what a call does that goes on finding: it hands back where to go on, and has made the splits of a tree -/
def FoundOut (b : Nat) (p T cv : Value) (sp : List Sp3) (g : Int) (w : World) (e : Ending) (w' : World) : Prop := e = .returned (.int .i64 g) ∧ Below b w w' ∧ ∃ sv, Box4 w' b p T cv sv ∧ w'.ownsRow (b + 1) TSp 3 sv sp.length (scells sp)
theorem FoundOut.mk {b : Nat} {p T cv sv : Value} {sp : List Sp3} {g : Int} {w w' : World} (hb : Below b w w') (hx : Box4 w' b p T cv sv) (ho : w'.ownsRow (b + 1) TSp 3 sv sp.length (scells sp)) : FoundOut b p T cv sp g w (.returned (.int .i64 g)) w' := ⟨rfl, hb, sv, hx, ho⟩
theorem FoundOut.out {b : Nat} {p T cv : Value} {sp : List Sp3} {g : Int} {w w' : World} {e : Ending} (h : FoundOut b p T cv sp g w e w') : e = .returned (.int .i64 g) ∧ Below b w w' ∧ ∃ sv, Box4 w' b p T cv sv ∧ w'.ownsRow (b + 1) TSp 3 sv sp.length (scells sp) := h
def FoundC (F P T : Nat) (Z : List Nat) (hf : Nat → Bool) (cl : List (Nat → Bool)) (f : Nat) : Prop := ∀ (kn : List Int) (k : Nat) (t : PT) (sp : List Sp3), KnOk P kn → UpTo P kn k → growT P hf cl f kn = some t → sp.length + t.size ≤ 15 →
  ∀ (b : Nat) (cv sv : Value) (w : World), Box4 w b (.int .i64 P) (.int .i64 T) cv sv → RdTabs w b cv Z → w.ownsRow (b + 1) TSp 3 sv sp.length (scells sp) →
    Calls Try.prog F #[.pointer (some ⟨b, 0, none⟩), .int .i64 (agreeN P kn), .int .i64 k] w (FoundOut b (.int .i64 P) (.int .i64 T) cv (sp ++ t.flat sp.length) (t.tgt sp.length) w)
attribute [local irreducible] holds tabN tabV holdsV sameV followsV alwaysV matterV claimOk mayT mayV ctabV ctabN storyV storyOk storyN storyT ctermV ctermL clT intsN agreeN closeB closeT hfV clL walkF KnOk UpTo FoundOut growT firstT scells
set_option maxRecDepth 100000 in
set_option maxHeartbeats 8000000 in
theorem implProved_step (P T : Nat) (h1 : 1 ≤ P) (h4 : P ≤ 4) (Z : List Nat) (hT : Hid (T < 65536)) (hf : Nat → Bool) (cl : List (Nat → Bool)) (hll : cl.length = Z.length)
    (hcl : ∀ (g : Int) (kn : List Int), g < 0 → closeB P hf cl g kn = closeT (agreeN P kn) T Z g) (f : Nat) (ih : ∀ f', f = f' + 1 → FoundC 40 P T Z hf cl f') : FoundC 40 P T Z hf cl f := by
  intro kn k t sp hkn hup hgr hsz b cv sv w hx ht hown
  have hA : Hid (agreeN (P : Int) kn < 65536) := agreeN_lt (by omega)
  have Hfe := Lib.hid (fun w hc hB => implFirstEnd (P : Int) (agreeN P kn) T Z hA hT b cv w hc hB)
  have Hx := Lib.hid hx
  have Ht := Lib.hid ht
  have Hown := Lib.hid hown
  obtain ⟨so, scap, rfl⟩ := own_len hown
  obtain ⟨co, ccap, rfl, hcle, hcm, _⟩ := ht.form
  unfold maxLen at hcm
  have hbw := hx.lt
  cases hF : firstT (agreeN P kn) T Z with
  | some g =>
    obtain rfl := first_leaf hcl hll hgr hF
    rw [hF, show FirstOut (some g) = .tuple #[.int .i64 g, .bool true] from rfl] at Hfe
    have e1 : sp ++ (PT.leaf g).flat sp.length = sp := by simp [PT.flat]
    rw [e1, show (PT.leaf g).tgt sp.length = g from rfl]
    clear ih hcl hF hgr hup hkn ht hown hll e1
    obtain ⟨x1, x2, x3, x4, x5, x6, x7, x8, x9⟩ := hx
    generalize agreeN (P : Int) kn = A at *
    generalize hL : sp.length = L at *
    have HL := Lib.hid hL; clear hL
    generalize Z.length = n at *
    go_enter Try.func40, Try.ntmps40
    go_wp2_with fail
    refine (Hfe.out _ Ht.out (by omega)).mono ?_
    rintro e w2 ⟨rfl, hb2⟩
    have Hx2 := Lib.hid (Hx.out.below hb2)
    have Ho2 := Lib.hid (own_below Hown.out hb2)
    have Hb2 := Lib.hid (hb2.mono (show b ≤ w.heap.size by omega)); clear hb2
    go_wp2
    go_ret
    exact FoundOut.mk Hb2.out Hx2.out (by rw [HL.out]; exact Ho2.out)
  | none =>
    obtain ⟨f', k', a, b', rfl, hu, hga, hgb, rfl⟩ := first_node hcl hll hgr hF
    obtain ⟨rfl, hkP⟩ := hup.least hu
    have hsz' : sp.length + (1 + a.size + b'.size) ≤ 15 := hsz
    obtain ⟨L1, L2, o, Hp, ho, hL⟩ := partedC P h1 h4 T kn hkn (k' : Int)
    have hko : kn.getD k' 0 < 0 := by unfold UpTo at hup; exact hup.2.2 k' (Nat.le_refl _) hkP
    rw [Int.toNat_natCast, decide_eq_true (show 0 ≤ (k' : Int) ∧ (k' : Int) < P by omega), decide_eq_true hko] at ho
    rw [Int.toNat_natCast] at hL
    obtain ⟨e1, e2⟩ := hL (by rw [ho]; rfl)
    have ih' := ih f' rfl
    unfold FoundC at ih'
    have hkl : kn.length = P := by unfold KnOk at hkn; exact hkn.1
    have hl1 : (sp ++ [((k' : Int), (0 : Int), (0 : Int))]).length = sp.length + 1 := by simp
    have hl2 : (sp ++ [((k' : Int), (0 : Int), (0 : Int))] ++ a.flat (sp ++ [((k' : Int), (0 : Int), (0 : Int))]).length).length = sp.length + 1 + a.size := by rw [List.length_append, PT.flat_len, hl1]
    have hcall1 := ih' (kn.set k' 0) (k' + 1) a (sp ++ [((k' : Int), 0, 0)]) (hkn.set hkP (by omega)) (hup.next hkl hkP (by omega)) hga (by omega) b (.slice co Z.length ccap)
    have hcall2 := ih' (kn.set k' 1) (k' + 1) b' (sp ++ [((k' : Int), (0 : Int), (0 : Int))] ++ a.flat (sp ++ [((k' : Int), (0 : Int), (0 : Int))]).length) (hkn.set hkP (by omega)) (hup.next hkl hkP (by omega)) hgb (by omega) b (.slice co Z.length ccap)
    rw [← e1, show ((k' + 1 : Nat) : Int) = (k' : Int) + 1 by omega] at hcall1
    rw [← e2, show ((k' + 1 : Nat) : Int) = (k' : Int) + 1 by omega] at hcall2
    have hfinal := grow_final (sp := sp) (k := k') (a := a) (b := b')
    have hl3 : (sp ++ [((k' : Int), (0 : Int), (0 : Int))] ++ a.flat (sp ++ [((k' : Int), (0 : Int), (0 : Int))]).length ++ b'.flat (sp ++ [((k' : Int), (0 : Int), (0 : Int))] ++ a.flat (sp ++ [((k' : Int), (0 : Int), (0 : Int))]).length).length).length = sp.length + 1 + a.size + b'.size := by rw [List.length_append, PT.flat_len, hl2]
    rw [show (PT.node k' a b').tgt sp.length = (sp.length : Int) from rfl, ← hfinal]
    clear hfinal ih ih' hgr hga hgb hu hcl hll hup hkn hkl hko e1 e2 hL hsz ht
    generalize a.tgt (sp ++ [((k' : Int), (0 : Int), (0 : Int))]).length = g1 at *
    generalize hS2 : sp ++ [((k' : Int), (0 : Int), (0 : Int))] ++ a.flat (sp ++ [((k' : Int), (0 : Int), (0 : Int))]).length = S2 at *
    generalize b'.tgt S2.length = g2 at *
    generalize hS3 : S2 ++ b'.flat S2.length = S3 at *
    rw [ho] at Hp
    rw [hF, show FirstOut none = .tuple #[.int .i64 0, .bool false] from rfl] at Hfe
    generalize agreeN (P : Int) kn = A at *
    have Hcall1 := Lib.hid hcall1
    have Hcall2 := Lib.hid hcall2
    have Hl2 := Lib.hid hl2
    have Hl3 := Lib.hid hl3
    have Hsz := Lib.hid hsz'
    obtain ⟨ii, hii, hz0, hz1, hz2⟩ := info_parts Try.infoSp
    have Ii := Lib.hid hii
    have Iz0 := Lib.hid hz0
    have Iz1 := Lib.hid hz1
    have Iz2 := Lib.hid hz2
    have hn15 : sp.length ≤ 14 := by omega
    have hkS : k' < 4 := by omega
    clear hcall1 hcall2 hl1 hl2 hl3 hS2 hS3 ho hF hown hii hz0 hz1 hz2 hsz'
    have hkw : (k' : Int) + 1 ≤ 5 := by omega
    obtain ⟨x1, x2, x3, x4, x5, x6, x7, x8, x9⟩ := hx
    generalize hL : sp.length = L at *
    have HL := Lib.hid hL; clear hL
    go_enter Try.func40, Try.ntmps40
    go_wp2_with fail
    refine (Hfe.out _ Ht.out (by omega)).mono ?_
    rintro e w2 ⟨rfl, hb2⟩
    have hx2 := Hx.out.below hb2
    have Hx2 := Lib.hid hx2
    have Ho2 := Lib.hid (own_below Hown.out hb2)
    have Ht2 := Lib.hid (Ht.out.below (w' := w2) (fun q hq => hb2.block q (by omega)))
    have Hb2 := Lib.hid (hb2.mono (show b ≤ w.heap.size by omega)); clear hb2
    clear x1 x2 x3 x4 x5 x6 x7 x8 x9 Hfe Hown Hx
    obtain ⟨x1, x2, x3, x4, x5, x6, x7, x8, x9⟩ := hx2
    have hnw : w2.heap.size ≤ w2.heap.size := Nat.le_refl _
    go_upto_region 6 with (first
      | (at_builtin
         refine wpList_append_own _ rfl (.tmp 35) (.tmp 38) 32 rfl (b + 1) TSp ii (.agg #[.int .i64 0, .int .i64 0, .int .i64 0]) 3 24 Try.underlying32 Ii.out Iz0.out Iz1.out Iz2.out rfl (by decide) _ L (scells sp) rfl (Ho2.out.alloc _) ⟨w2.heap.size, 0, none⟩ 1 _ [.int .i64 k', .int .i64 0, .int .i64 0] rfl rfl (news3f rfl rfl) (by simp [Value.oneCell']) (by unfold maxLen; omega) (by omega) ?_ ?_
         go_must (simp; omega)
         go_must (intro v9 w9 hown9 hgr9 hat9
                  obtain ⟨f9, c9, hv9⟩ := own_len hown9
                  subst hv9
                  have hx9 := (Hx2.out.alloc (.cells #[.int .i64 k', .int .i64 0, .int .i64 0] TSp)).grown hgr9 (fun e => by have := (Ho2.out.lt _ e).1; omega)
                  have Hb9 := Lib.hid (below_grown_rowP (w1 := w2.alloc (.cells #[.int .i64 k', .int .i64 0, .int .i64 0] TSp)) (Hb2.out.alloc (by omega) _) hgr9 (by simp; omega) (fun q hq => by have := (Ho2.out.lt q hq).1; omega))
                  have Ho9 := Lib.hid hown9
                  have Hx9 := Lib.hid hx9
                  have Hg9 := Lib.hid hgr9
                  obtain ⟨y1, y2, y3, y4, y5, y6, y7, y8, y9⟩ := hx9
                  clear hown9 hgr9 hat9))
      | fail)
    obtain ⟨hx10, hg10⟩ := Hx9.out.set3 (.slice f9 (L + 1) c9)
    have hx9l := Hx9.out.lt
    have Hb10 := Lib.hid (below_grown_rowP Hb9.out hg10 (by omega) (fun q hq => by cases hq; omega))
    have ho10 := own_row Ho9.out hg10 (by omega)
    rw [← scells_one3, ← scells_append] at ho10
    obtain ⟨w10, hw10⟩ : ∃ w10, w10 = w9.setCell ⟨b, 3, none⟩ (.slice f9 (L + 1) c9) := ⟨_, rfl⟩
    rw [← hw10] at hx10 Hb10 ho10
    rw [← hw10]
    have Hx10 := Lib.hid hx10
    have Ho10 := Lib.hid ho10
    have hl10 := hx10.lt
    clear hw10 y1 y2 y3 y4 y5 y6 y7 y8 y9 x1 x2 x3 x4 x5 x6 x7 x8 x9 hg10 ho10 Hg9 Hb9 Ho9 Hx9 Hx2 Ho2 Ht2 Hb2 hx9l
    obtain ⟨x1, x2, x3, x4, x5, x6, x7, x8, x9⟩ := hx10
    go_wp2_with fail
    refine (Hp.out _ _).mono ?_
    rintro e w11 ⟨rfl, hb11⟩
    have hx11 := Hx10.out.below hb11
    have Hx11 := Lib.hid hx11
    have ho11 := own_below Ho10.out hb11
    have Hb11 := Lib.hid (Hb10.out.trans (hb11.mono (by omega)))
    have hl1 : (sp ++ [((k' : Int), (0 : Int), (0 : Int))]).length = L + 1 := by simp [HL.out]
    have ho11' : w11.ownsRow (b + 1) TSp 3 (.slice f9 (L + 1) c9) (sp ++ [((k' : Int), (0 : Int), (0 : Int))]).length (scells (sp ++ [((k' : Int), 0, 0)])) := by rw [hl1]; exact ho11
    have hc1 := Hcall1.out (.slice f9 (L + 1) c9) w11 hx11 (Ht.out.below (w' := w11) Hb11.out.block) ho11'
    have Hc1 := Lib.hid hc1
    clear hc1 ho11 ho11' hl1 hb11 Hcall1 x1 x2 x3 x4 x5 x6 x7 x8 x9 Hx10 Ho10 Hb10 Hp
    obtain ⟨x1, x2, x3, x4, x5, x6, x7, x8, x9⟩ := hx11
    go_wp2_with fail
    refine Hc1.out.mono ?_
    intro e w12 hout
    obtain ⟨rfl, hb12, sv12, hx12, ho12⟩ := hout.out
    obtain ⟨f12, c12, rfl⟩ := own_len ho12
    have Hb12 := Lib.hid (Hb11.out.trans hb12)
    have hc2 := Hcall2.out (.slice f12 S2.length c12) w12 hx12 (Ht.out.below (w' := w12) Hb12.out.block) ho12
    have Hc2 := Lib.hid hc2
    have Hx12 := Lib.hid hx12
    clear hc2 ho12 hb12 Hcall2 hout Hc1 Hb11 Hx11 x1 x2 x3 x4 x5 x6 x7 x8 x9
    obtain ⟨x1, x2, x3, x4, x5, x6, x7, x8, x9⟩ := hx12
    generalize hLS2 : S2.length = LS2 at *
    clear hLS2
    go_wp2_with fail
    refine Hc2.out.mono ?_
    intro e w13 hout
    obtain ⟨rfl, hb13, sv13, hx13, ho13⟩ := hout.out
    have hL3 : L < S3.length := by have := Hl3.out; omega
    obtain ⟨g13, c13, rfl⟩ : ∃ g13 c13, sv13 = .slice (some ⟨g13, 0, none⟩) S3.length c13 := by
      rcases ho13.2 with ⟨_, h0⟩ | ⟨g12, c12, cur, h, _⟩
      · omega
      · exact ⟨g12, c12, h⟩
    have hg13 := (ho13.lt g13 rfl).1
    have Hb13 := Lib.hid (Hb12.out.trans hb13)
    have Hx13 := Lib.hid hx13
    have hsc13 : S3.length ≤ c13 := by
      rcases ho13.2 with ⟨h, _⟩ | ⟨_, _, cur, h, _, _, h2, _⟩
      · cases h
      · cases h; exact h2
    obtain ⟨ho14, hb14, ⟨ca, cb, cc, q1, q2, q3⟩, z1, z2, z3⟩ := split_stored ho13 rfl L hL3 ((k' : Int), g1, g2)
    dsimp only at ho14 hb14
    have hg14 : w13.grownBy (((w13.setCell ⟨g13, L * 3, none⟩ (.int .i64 k')).setCell ⟨g13, L * 3 + 1, none⟩ (.int .i64 g1)).setCell ⟨g13, L * 3 + 2, none⟩ (.int .i64 g2)) (some g13) := grown_trans (grown_trans (grown_set _ _ _ _) (grown_set _ _ _ _)) (grown_set _ _ _ _)
    have Hx14 := Lib.hid (Hx13.out.grown hg14 (by intro e; cases e; omega))
    have Ho14 := Lib.hid ho14
    have Hb14 := Lib.hid (Hb13.out.trans (hb14.mono (by omega)))
    clear ho13 hb13 ho14 hb14 hg14 hout Hc2 Hb12 Hx12 Hx13 x1 x2 x3 x4 x5 x6 x7 x8 x9
    obtain ⟨x1, x2, x3, x4, x5, x6, x7, x8, x9⟩ := hx13
    generalize hLS3 : S3.length = L3 at *
    have HLS3 := Lib.hid hLS3; clear hLS3
    have hmL : (L : Int) < (L3 : Int) := by omega
    go_upto_region 10 with fail
    generalize ((w13.setCell ⟨g13, L * 3, none⟩ (.int .i64 k')).setCell ⟨g13, L * 3 + 1, none⟩ (.int .i64 g1)).setCell ⟨g13, L * 3 + 2, none⟩ (.int .i64 g2) = w14 at *
    clear q1 q2 q3 z1 z2 z3
    go_wp2
    go_ret
    exact FoundOut.mk Hb14.out Hx14.out (by rw [List.length_set, HLS3.out]; exact Ho14.out)
theorem implProved (P T : Nat) (h1 : 1 ≤ P) (h4 : P ≤ 4) (Z : List Nat) (hT : Hid (T < 65536)) (hf : Nat → Bool) (cl : List (Nat → Bool)) (hll : cl.length = Z.length)
    (hcl : ∀ (g : Int) (kn : List Int), g < 0 → closeB P hf cl g kn = closeT (agreeN P kn) T Z g) : ∀ f, FoundC 40 P T Z hf cl f := by
  intro f
  induction f with
  | zero => exact implProved_step P T h1 h4 Z hT hf cl hll hcl 0 (fun f' h => by omega)
  | succ f ih => exact implProved_step P T h1 h4 Z hT hf cl hll hcl (f + 1) (fun f' h => (Nat.succ.inj h) ▸ ih)
end Go.Proofs.Ytilgkheefhobgaa
/- Contract of the program's FindProof. -/
namespace Go.Proofs.Ytilgkheefhobgaa
open Go.RowKit Go.Joins
attribute [local irreducible] holds tabN tabV holdsV sameV followsV alwaysV matterV claimOk mayT mayV ctabV ctabN storyV storyOk storyN storyT ctermV ctermL clT intsN agreeN closeB closeT hfV clL walkF KnOk UpTo FoundOut growT firstT scells followsF findF
set_option maxRecDepth 100000 in
set_option maxHeartbeats 8000000 in
theorem implFindProof (p : Int) (qs : List QC) (ms : List (Int × Int)) (B : Nat) (v u : Value) (w : World) (hr : RdStory w B v qs) (hr' : RdMarks w B u ms) (hB : B ≤ w.heap.size) :
    Calls Try.prog 19 #[.int .i64 p, v, u] w (FindOut (foundS (findF p (qs.map (·.2)) ms)) (foundG (findF p (qs.map (·.2)) ms)) (findF p (qs.map (·.2)) ms).isSome w) := by
  have hff := fun w h h' hB => implFollowsFrom p qs ms B v u w h h' hB
  have Hr := Lib.hid hr
  have Hm := Lib.hid hr'
  clear hr hr'
  obtain ⟨w1, hw1, hx1, hb1, hs1⟩ := Box.new w (.int .i64 0) (.slice none 0 0) 34
  have Hr1 := Lib.hid (Hr.out.below (w' := w1) (fun q hq => hb1.block q (by omega)))
  have Hm1 := Lib.hid (Hm.out.below (w' := w1) (fun q hq => hb1.block q (by omega)))
  have hB1 : B ≤ w1.heap.size := by omega
  have Hb1 := Lib.hid hb1
  have HX1 := Lib.hid hx1
  clear hb1 Hr Hm hs1
  cases hfo : followsF p (qs.map (·.2)) ms with
  | false =>
    have hno : findF p (qs.map (·.2)) ms = none := by
      have h := find_iff (p := p) (s := qs.map (·.2)) (ms := ms)
      rw [hfo] at h
      cases hh : findF p (qs.map (·.2)) ms with
      | none => rfl
      | some t => rw [hh] at h; cases h
    rw [hno, show foundS none = [] from rfl, show foundG none = 0 from rfl, isSome_noneT]
    rw [hfo] at hff
    have Hff := Lib.hid hff
    clear hff hfo hno
    obtain ⟨x1, x2, x3, x4, x5⟩ := hx1
    go_enter Try.func19, Try.ntmps19
    go_upto_region 1 with fail
    rw [← hw1]
    clear hw1
    go_wp2_with fail
    refine (Hff.out _ Hr1.out Hm1.out hB1).mono ?_
    rintro e w2 ⟨rfl, hb2⟩
    have hx2 := HX1.out.below hb2
    obtain ⟨w6, e6, hx6, hout⟩ := proof_fin hx2 (Hb1.out.trans (hb2.mono Hb1.out.size)) (own_nil11 w2 (w.heap.size + 1)) 0 false
    have E6 := Lib.hid e6
    have Hout := Lib.hid hout
    obtain ⟨y1, y2, y3, y4, y5⟩ := hx2
    clear e6 hout hb2 x1 x2 x3 x4
    go_wp2
    rw [← E6.out]
    obtain ⟨z1, z2, _⟩ := hx6
    exact bodyPost_ret (by simp [results, Try.results19, go_sem, z1, z2]) rfl Hout.out
  | true =>
    obtain ⟨hok, ht, _⟩ := followsF_iff.1 hfo
    obtain ⟨h1, h4⟩ := p_of ht
    obtain ⟨P, rfl⟩ := Int.eq_ofNat_of_zero_le (show 0 ≤ p by omega)
    obtain ⟨t, hft⟩ : ∃ t, findF (P : Int) (qs.map (·.2)) ms = some t := by
      have h := find_iff (p := (P : Int)) (s := qs.map (·.2)) (ms := ms)
      rw [hfo] at h
      exact Option.isSome_iff_exists.1 h
    have hgt := hft
    rw [findF_yes hok ht, Int.toNat_natCast] at hgt
    have htsz : t.size ≤ 15 := PT.size_15 (by omega) (grow_ok _ _ _ hgt)
    rw [hft, show foundS (some t) = t.flat 0 from rfl, show foundG (some t) = t.tgt 0 from rfl, show (some t).isSome = true from rfl]
    have Hgr := Lib.hid (fun w h h' hB => implGroundsOf (P : Int) qs ms hok ht B v u w h h' hB)
    have Hall := Lib.hid (fun w => implAllWorlds (P : Int) h1 h4 w)
    have hAll : allV (P : Int) = ((agreeN (P : Int) (noneK P) : Nat) : Int) := by
      have := agree_all h1
      rw [Int.toNat_natCast] at this
      rw [this]; unfold allV; rw [Int.toNat_natCast]
    rw [hAll] at Hall
    have HT : Hid (tabN (P : Int) ms < 65536) := tabN_lt ht
    have HZ6 : Hid ((clT (P : Int) (qs.map (·.2))).length ≤ 6) := by unfold Hid; rw [clT_len]; exact (storyOk_iff.1 hok).2.2
    have HZb : Hid (∀ j, (clT (P : Int) (qs.map (·.2))).getD j 0 < 65536) := clT_lt h1 h4
    have hpv := implProved P (tabN (P : Int) ms) (by omega) (by omega) (clT (P : Int) (qs.map (·.2))) HT (hfV P ms) (clL P (qs.map (·.2))) (by rw [clL_len, clT_len]) (fun g kn hg => by
      have := close_T (p := (P : Int)) (s := qs.map (·.2)) (ms := ms) (kn := kn) hg
      rwa [Int.toNat_natCast] at this) P
    unfold FoundC at hpv
    have hcall := hpv (noneK P) 0 t [] (KnOk.none P) (UpTo.none P) hgt (by simpa using htsz)
    have e0 : ([] : List Sp3) ++ t.flat ([] : List Sp3).length = t.flat 0 := by simp
    rw [e0, show t.tgt ([] : List Sp3).length = t.tgt 0 from rfl, show ((0 : Nat) : Int) = 0 from rfl] at hcall
    have Hcall := Lib.hid hcall
    rw [hfo] at hff
    have Hff := Lib.hid hff
    clear hpv hcall hff hfo hAll hgt hft hok ht e0 htsz h1 h4
    generalize clT (P : Int) (qs.map (·.2)) = Z at *
    generalize tabN (P : Int) ms = T at *
    generalize agreeN (P : Int) (noneK P) = A at *
    generalize t.flat 0 = S at *
    generalize t.tgt 0 = G at *
    obtain ⟨x1, x2, x3, x4, x5⟩ := hx1
    go_enter Try.func19, Try.ntmps19
    go_upto_region 1 with fail
    rw [← hw1]
    clear hw1
    go_wp2_with fail
    refine (Hff.out _ Hr1.out Hm1.out hB1).mono ?_
    rintro e w2 ⟨rfl, hb2⟩
    have hs2 := hb2.size
    have Hr2 := Lib.hid (Hr1.out.below (w' := w2) (fun q hq => hb2.block q (by omega)))
    have Hm2 := Lib.hid (Hm1.out.below (w' := w2) (fun q hq => hb2.block q (by omega)))
    have HX2 := Lib.hid (HX1.out.below hb2)
    have Hb2 := Lib.hid (Hb1.out.trans (hb2.mono Hb1.out.size))
    have hB2 : B ≤ w2.heap.size := by omega
    clear hb2 x1 x2 x3 x4 hs2
    go_wp2_with fail
    refine (Hgr.out _ Hr2.out Hm2.out hB2).mono ?_
    rintro e w3 ⟨cv, rfl, ho3, hb3⟩
    obtain ⟨co, cc, rfl⟩ := own_len ho3
    have ht3 := RdTabs.of_own ho3 HZ6.out HZb.out
    have HX3 := Lib.hid (HX2.out.below hb3)
    have Hb3 := Lib.hid (Hb2.out.trans (hb3.mono Hb2.out.size))
    obtain ⟨w4, hw4, hy4, hb4, hs4⟩ := Box4.new w3 (.int .i64 P) (.int .i64 T) (.slice co Z.length cc) (.slice none 0 0) 66
    have hx3l := HX3.out.2.2.2.2
    have Hb4 := Lib.hid (Hb3.out.trans (hb4.mono (by omega)))
    have HX4 := Lib.hid (HX3.out.below hb4)
    have hc := Hcall.out w3.heap.size (.slice co Z.length cc) (.slice none 0 0) w4 hy4 (ht3.below hb4.block) (own_nil11 w4 (w3.heap.size + 1))
    have Hc := Lib.hid hc
    have hlt3 : w.heap.size < w3.heap.size := hx3l
    obtain ⟨y1, y2, y3, y4, y5, y6, y7, y8, y9⟩ := hy4
    obtain ⟨b, hb⟩ : ∃ b, b = w3.heap.size := ⟨_, rfl⟩
    rw [← hb] at y1 y2 y3 y4 y5 y6 y7 y8 y9 Hc hlt3
    clear hc ht3 ho3 hb3 hb4 hs4 hx3l Hcall
    go_upto_region 4 with fail
    rw [← hw4, ← hb]
    clear hw4 hb
    go_wp2_with fail
    refine (Hall.out _).mono ?_
    rintro e w' ⟨rfl, rfl⟩
    go_wp2_with fail
    refine Hc.out.mono ?_
    intro e w5 hout
    obtain ⟨rfl, hb5, sv, hy5, ho5⟩ := hout.out
    obtain ⟨so, scap, rfl⟩ := own_len ho5
    have hx5 := HX4.out.belowAt hb5 hlt3
    obtain ⟨w6, e6, hx6, hout6⟩ := proof_fin hx5 (Hb4.out.trans (hb5.mono (by omega))) (own_mono (base := w.heap.size + 1) ho5 (by omega)) G true
    have E6 := Lib.hid e6
    have Hout := Lib.hid hout6
    clear y1 y2 y3 y4 y5 y6 y7 y8 y9 hout hout6 e6 hb5 ho5 Hc
    obtain ⟨y1, y2, y3, y4, y5, y6, y7, y8, y9⟩ := hy5
    obtain ⟨x1, x2, x3, x4, x5'⟩ := hx5
    generalize S.length = L at *
    go_wp2
    rw [← E6.out]
    obtain ⟨z1, z2, _⟩ := hx6
    exact bodyPost_ret (by simp [results, Try.results19, go_sem, z1, z2]) rfl Hout.out
end Go.Proofs.Ytilgkheefhobgaa
/- Contracts of the program's functions of stage 11. -/
namespace Go.Proofs.Ytilgkheefhobgaa
open Go.RowKit
theorem proofI_here : True := trivial
end Go.Proofs.Ytilgkheefhobgaa
/- Appends of stories: a story that is read, one claim more, in any order. -/
namespace Go.Proofs.Ytilgkheefhobgaa
open Go.RowKit Go.Joins
abbrev TQ : TypeId := 23
/-- an append of claims that are read, wherever they lie -/
theorem append_story {w : World} {base B n : Nat} {ty : TypeId} {v u : Value} {cs : List Value} {qs : List QC} {ic : TypeInfo} (hci : Try.prog.info? TC = some ic) (hz : ic.zero = some (.agg #[.int .i64 0, .slice none 0 0])) (hsize : ic.size = 2) (hby : ic.bytes = 32)
    (hown : w.ownsRow base TC 2 v n cs) (hr : RdStory w B u qs) (hl : n + qs.length ≤ 1000000) (hbase : base ≤ w.heap.size) :
    ∃ v' w', (Builtin.append_ #[TQ, TQ] ty #[v, u]).run Try.prog w = .ok v' w' ∧ w'.ownsRow base TC 2 v' (n + qs.length) (cs ++ ccells qs) ∧ w.grownBy w' v.ownBlock ∧ (v'.ownBlock = v.ownBlock ∨ v'.ownBlock = some w.heap.size) := by
  have hr0 := hr
  have h1 := hr.one
  obtain ⟨ao, cap, rfl, hlc, hcm, hi, hc⟩ := hr
  cases ao with
  | none =>
    have h0 : qs = [] := by
      cases qs with
      | nil => rfl
      | cons m r =>
        obtain ⟨_, _, he, _⟩ := hc 0 (by simp)
        cases he
    subst h0
    refine ⟨v, w, run_append_own_none w base TQ ty TC ic 2 Try.underlying23 hci hsize v n cs hown cap (by unfold maxLen; omega), by simpa [ccells] using hown, World.grownBy.refl _ _, .inl rfl⟩
  | some a =>
    have hnews : ∀ (j : Nat) (x : Value), (ccells qs)[j]? = some x → w.cell? (a.add j) = some x := by
      cases qs with
      | nil => intro j x hj; simp [ccells] at hj
      | cons m r =>
        obtain ⟨b, off, he, _⟩ := hc 0 (by simp)
        cases he
        exact hr0.cells
    obtain ⟨v', w', h1, h2, h3, _, h5⟩ := run_append_own_at (P := Try.prog) w base TQ ty TC ic (.agg #[.int .i64 0, .slice none 0 0]) 2 32 Try.underlying23 hci hz hsize hby rfl (by omega) v n cs hown a qs.length cap (ccells qs) (ccells_length _) hnews h1 (by unfold maxLen; omega) (by omega) hbase
    exact ⟨v', w', h1, h2, h3, h5⟩
theorem wpList_append_story {ops : Array Oper} {rest : List Oper} {o : Oper} {a : Act} {w : World} {Q : Exit → Act → World → Prop} {ic : TypeInfo} (hgd : o.guard = none) (s x : Operand)
    (ho : o.op = .call { callee := .builtin .append, args := #[s, x], argTypes := #[TQ, TQ] }) (hci : Try.prog.info? TC = some ic) (hz : ic.zero = some (.agg #[.int .i64 0, .slice none 0 0])) (hsize : ic.size = 2) (hby : ic.bytes = 32)
    {base B n : Nat} {v u : Value} {cs : List Value} {qs : List QC} (hs : a.eval s = v) (hx : a.eval x = u) (hown : w.ownsRow base TC 2 v n cs) (hr : RdStory w B u qs) (hl : n + qs.length ≤ 1000000) (hbase : base ≤ w.heap.size)
    (h : ∀ v' w', w'.ownsRow base TC 2 v' (n + qs.length) (cs ++ ccells qs) → w.grownBy w' v.ownBlock → (v'.ownBlock = v.ownBlock ∨ v'.ownBlock = some w.heap.size) → wpList Try.prog ops Q rest (a.put o.dst v') w') : wpList Try.prog ops Q (o :: rest) a w := by
  refine wpList_plain hgd fun K hK => ?_
  obtain ⟨v', w', hr, h2, h3, h5⟩ := append_story (ty := o.type) hci hz hsize hby hown hr hl hbase
  unfold Oper.wp execOp
  simp only [ho, resolve, invoke, builtin, Sem.run_bind, Sem.run_pure, Result.andThen_ok, List.map_toArray, List.map_cons, List.map_nil, hs, hx, hr]
  exact hK _ _ (h v' w' h2 h3 h5)
/-- in the midst of a region that draws its order: the row of its own that it grows, and, if they lie already (block 'at'), the claim that it will append last -/
def HaveS (w0 : World) (at_ : Option Nat) (ns : List Value) (w : World) (v : Value) (n : Nat) (cs : List Value) : Prop :=
  w0.grownBy w none ∧ w.ownsRow w0.heap.size TC 2 v n cs ∧ ∀ b, at_ = some b → w0.heap.size ≤ b ∧ b < w.heap.size ∧ v.ownBlock ≠ some b ∧ ∀ (j : Nat) (u : Value), ns[j]? = some u → w.cell? ((⟨b, 0, none⟩ : Addr).add j) = some u
theorem HaveS.start (w0 : World) (ns : List Value) : HaveS w0 none ns (w0.alloc (.cells #[] TC)) (.slice (some ⟨w0.heap.size, 0, none⟩) 0 0) 0 [] :=
  ⟨only_alloc (World.grownBy.refl _ _) _, World.ownsRow_made w0 #[] 0 (Nat.le_refl _) (Nat.zero_le _) rfl, fun b hb => by cases hb⟩
theorem HaveS.lay {w0 w : World} {ns : List Value} {v : Value} {n : Nat} {cs : List Value} (h : HaveS w0 none ns w v n cs) (o : Obj) (hn : ∀ (j : Nat) (u : Value), ns[j]? = some u → (w.alloc o).cell? ((⟨w.heap.size, 0, none⟩ : Addr).add j) = some u) :
    HaveS w0 (some w.heap.size) ns (w.alloc o) v n cs := by
  refine ⟨only_alloc h.1 _, h.2.1.alloc _, fun b hb => ?_⟩
  cases hb
  refine ⟨h.1.size, by simp, fun e => ?_, hn⟩
  have := (h.2.1.lt _ e).2
  omega
theorem HaveS.laid_next (w0 : World) (ns : List Value) (o : Obj) (hn : ∀ (j : Nat) (u : Value), ns[j]? = some u → ((w0.alloc (.cells #[] TC)).alloc o).cell? ((⟨(w0.alloc (.cells #[] TC)).heap.size, 0, none⟩ : Addr).add j) = some u) :
    HaveS w0 (some (w0.heap.size + 1)) ns ((w0.alloc (.cells #[] TC)).alloc o) (.slice (some ⟨w0.heap.size, 0, none⟩) 0 0) 0 [] := by
  have h := (HaveS.start w0 ns).lay o hn
  have e : (w0.alloc (.cells #[] TC)).heap.size = w0.heap.size + 1 := by simp
  rw [e] at h
  exact h
theorem HaveS.laid_first (w0 : World) (ns : List Value) (o : Obj) (hn : ∀ (j : Nat) (u : Value), ns[j]? = some u → (w0.alloc o).cell? ((⟨w0.heap.size, 0, none⟩ : Addr).add j) = some u) :
    HaveS w0 (some w0.heap.size) ns ((w0.alloc o).alloc (.cells #[] TC)) (.slice (some ⟨w0.heap.size + 1, 0, none⟩) 0 0) 0 [] := by
  have h := World.ownsRow_made (base := w0.heap.size) (size := 2) (e := TC) (w0.alloc o) #[] 0 (by simp) (Nat.zero_le _) rfl
  have e : (w0.alloc o).heap.size = w0.heap.size + 1 := by simp
  rw [e] at h
  refine ⟨only_alloc (only_alloc (World.grownBy.refl _ _) _) _, h, fun b hb => ?_⟩
  cases hb
  refine ⟨Nat.le_refl _, by simp; omega, fun e => by simp [Value.ownBlock] at e, cells_alloc hn (by simp) _⟩
theorem HaveS.drewN {w0 w : World} {at_ : Option Nat} {ns : List Value} {v : Value} {n : Nat} {cs : List Value} (h : HaveS w0 at_ ns w v n cs) (k : Nat) : HaveS w0 at_ ns (w.drewN k) v n cs :=
  ⟨grownBy_drewN h.1 k, h.2.1, h.2.2⟩
theorem HaveS.drew {w0 w : World} {at_ : Option Nat} {ns : List Value} {v : Value} {n : Nat} {cs : List Value} (h : HaveS w0 at_ ns w v n cs) : HaveS w0 at_ ns w.drew v n cs := h.drewN 1
/-- an append of the claims that came in -/
theorem app_keepS {ops : Array Oper} {o : Oper} {a : Act} {w : World} {K : Act → World → Prop} {Q : Exit → Act → World → Prop} {E : Prop} {ic : TypeInfo} (hgd : o.guard = none) (s x : Operand)
    (ho : o.op = .call { callee := .builtin .append, args := #[s, x], argTypes := #[TQ, TQ] }) (hci : Try.prog.info? TC = some ic) (hz : ic.zero = some (.agg #[.int .i64 0, .slice none 0 0])) (hsize : ic.size = 2) (hby : ic.bytes = 32)
    {w0 : World} {at_ : Option Nat} {ns : List Value} {v : Value} {n : Nat} {cs : List Value} (h : HaveS w0 at_ ns w v n cs) (hs : a.eval s = v)
    {u : Value} {B : Nat} {qs : List QC} (hx : a.eval x = u) (hr : RdStory w0 B u qs) (hB : B ≤ w0.heap.size) (hl : n + qs.length ≤ 1000000)
    (hK : ∀ v' w', HaveS w0 at_ ns w' v' (n + qs.length) (cs ++ ccells qs) → K (a.put o.dst v') w') : if Region.wanted o (yielded ops a.tmps) = true then Oper.wp Try.prog o a w K Q else E := by
  have hw : Region.wanted o (yielded ops a.tmps) = true := by simp [Region.wanted, hgd]
  rw [if_pos hw]
  obtain ⟨hG, hown, hN⟩ := h
  obtain ⟨v', w', hr, h2, h3, h5⟩ := append_story (ty := o.type) hci hz hsize hby hown (hr.below (w' := w) (fun q hq => hG.block q (by omega) (by simp))) hl hG.size
  unfold Oper.wp execOp
  simp only [ho, resolve, invoke, builtin, Sem.run_bind, Sem.run_pure, Result.andThen_ok, List.map_toArray, List.map_cons, List.map_nil, hs, hx, hr]
  refine hK v' w' ⟨grown_own hG h3 (fun k hk => (hown.lt k hk).1), h2, fun b hb => ?_⟩
  obtain ⟨h6, h7, h8, h9⟩ := hN b hb
  refine ⟨h6, by have := h3.size; omega, fun e => ?_, fun j u hj => ?_⟩
  · rcases h5 with h5 | h5
    · exact h8 (by rw [← h5]; exact e)
    · rw [h5] at e; cases e; omega
  · exact (h3.cell_far ((⟨b, 0, none⟩ : Addr).add j) (by rw [block_add]; exact h7) (by rw [block_add]; exact fun e => h8 e.symm)).trans (h9 j u hj)
/-- the append of the claim -/
theorem app_lastS {ops : Array Oper} {o : Oper} {a : Act} {w : World} {K : Act → World → Prop} {Q : Exit → Act → World → Prop} {E : Prop} {ic : TypeInfo} (hgd : o.guard = none) (s x : Operand)
    (ho : o.op = .call { callee := .builtin .append, args := #[s, x], argTypes := #[TQ, TQ] }) (hci : Try.prog.info? TC = some ic) (hz : ic.zero = some (.agg #[.int .i64 0, .slice none 0 0])) (hsize : ic.size = 2) (hby : ic.bytes = 32)
    {w0 : World} {b c : Nat} {q : QC} {v : Value} {n : Nat} {cs : List Value} (h : HaveS w0 (some b) (ccells [q]) w v n cs) (hs : a.eval s = v)
    (hx : a.eval x = .slice (some ⟨b, 0, none⟩) 1 c) (hq : q.1.oneCell' = true) (hl : n + 1 ≤ 1000000)
    (hK : ∀ v' w', w0.grownBy w' none → w'.ownsRow w0.heap.size TC 2 v' (n + 1) (cs ++ ccells [q]) → K (a.put o.dst v') w') : if Region.wanted o (yielded ops a.tmps) = true then Oper.wp Try.prog o a w K Q else E := by
  have hw : Region.wanted o (yielded ops a.tmps) = true := by simp [Region.wanted, hgd]
  rw [if_pos hw]
  obtain ⟨hG, hown, hN⟩ := h
  obtain ⟨_, _, _, h9⟩ := hN b rfl
  obtain ⟨v', w', hr, h2, h3, _, _⟩ := run_append_own_at (P := Try.prog) w w0.heap.size TQ o.type TC ic (.agg #[.int .i64 0, .slice none 0 0]) 2 32 Try.underlying23 hci hz hsize hby rfl (by omega) v n cs hown ⟨b, 0, none⟩ 1 c (ccells [q]) (ccells_length _) h9 (ccells_one (by simpa using hq)) (by unfold maxLen; omega) (by omega) hG.size
  unfold Oper.wp execOp
  simp only [ho, resolve, invoke, builtin, Sem.run_bind, Sem.run_pure, Result.andThen_ok, List.map_toArray, List.map_cons, List.map_nil, hs, hx, hr]
  exact hK v' w' (grown_own hG h3 (fun k hk => (hown.lt k hk).1)) h2
/-- a story of which the rows lie below, with one claim more -/
theorem rdStory_more {w w' : World} {base : Nat} {v v' : Value} {qs : List QC} {q : QC} (hr : RdStory w w.heap.size v qs) (hb : Below w.heap.size w w') (hq : RdMarks w' w'.heap.size q.1 q.2.2 ∧ I64 q.2.1) (ho : w'.ownsRow base TC 2 v' (qs.length + 1) (ccells qs ++ ccells [q])) : RdStory w' w'.heap.size v' (qs ++ [q]) := by
  refine rdStory_own (by rw [ccells_append]; exact ho) (by simp) (fun r hr' => ?_)
  rcases List.mem_append.1 hr' with h | h
  · exact ⟨((hr.marks r h).1.below hb.block).mono hb.size, (hr.marks r h).2⟩
  · simp at h; subst h; exact hq
theorem map_more (qs : List QC) (q : QC) : (qs ++ [q]).map (·.2) = qs.map (·.2) ++ [q.2] := by simp
end Go.Proofs.Ytilgkheefhobgaa

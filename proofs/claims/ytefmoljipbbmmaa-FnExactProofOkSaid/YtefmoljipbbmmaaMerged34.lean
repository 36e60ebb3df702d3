/- Texts of a proof, merged: PfD, PfE, PfF, ProofI, ClaimE. -/
import Derived.Test.YtefmoljipbbmmaaPfC
import Derived.Test.YtefmoljipbbmmaaTruthI
import Derived.Test.YtefmoljipbbmmaaMerged6
import Derived.Test.YtefmoljipbbmmaaDrawPu
import Derived.Test.YtefmoljipbbmmaaMerged27
import Derived.Test.YtefmoljipbbmmaaPfO
import Derived.Test.YtefmoljipbbmmaaMerged7
import Derived.Deep.RegionHeld3
import Derived.Deep.Cut
/- Contracts of the program's proofs by cases: what follows. -/
namespace Go.Proofs.Ytefmoljipbbmmaa
open Go.RowKit Go.Joins
attribute [local irreducible] holds tabN tabV holdsV sameV followsV alwaysV matterV claimOk mayT mayV ctabV ctabN storyV storyOk storyN storyT ctermV ctermL clT intsN agreeN closeB closeT hfV clL walkF KnOk ProvesOut followsF provesF
set_option maxRecDepth 100000 in
set_option maxHeartbeats 2000000 in
theorem implFollowsFrom (p : Int) (qs : List QC) (ms : List (Int × Int)) (B : Nat) (v u : Value) (w : World) (hr : RdStory w B v qs) (hr' : RdMarks w B u ms) (hB : B ≤ w.heap.size) :
    Calls Try.prog 11 #[.int .i64 p, v, u] w fun e w' => e = .returned (.bool (followsF p (qs.map (·.2)) ms)) ∧ Below w.heap.size w w' := by
  have Hso := Lib.hid (fun w h hB => implStoryOk p qs B v w h hB)
  have Hto := Lib.hid (fun w h hB => implTermOk p ms B u w h hB)
  have Hr := Lib.hid hr
  have Hm := Lib.hid hr'
  clear hr hr'
  obtain ⟨wo, rfl⟩ : ∃ wo : World, wo = w := ⟨_, rfl⟩
  cases hok : storyOk p (qs.map (·.2)) with
  | false =>
    have Hf := Lib.hid (followsF_no1 (ms := ms) hok)
    rw [hok] at Hso
    clear hok
    go_enter Try.func11, Try.ntmps11
    go_wp2_with fail
    refine (Hso.out _ Hr.out hB).mono ?_
    rintro e w2 ⟨rfl, hb2⟩
    have Hb2 := Lib.hid hb2; clear hb2
    go_wp2
    go_ret
    exact ⟨by rw [Hf.out]; rfl, Hb2.out⟩
  | true =>
  cases ht : termOk p ms with
  | false =>
    have Hf := Lib.hid (followsF_no2 (s := qs.map (·.2)) ht)
    rw [hok] at Hso
    rw [ht] at Hto
    clear hok ht
    go_enter Try.func11, Try.ntmps11
    go_wp2_with fail
    refine (Hso.out _ Hr.out hB).mono ?_
    rintro e w2 ⟨rfl, hb2⟩
    have hB2 : B ≤ w2.heap.size := Nat.le_trans hB hb2.size
    have Hm2 := Lib.hid (Hm.out.below (w' := w2) (fun q hq => hb2.block q (by omega)))
    have Hb2 := Lib.hid hb2; clear hb2
    go_wp2_with fail
    refine (Hto.out _ Hm2.out hB2).mono ?_
    rintro e w3 ⟨rfl, hb3⟩
    have Hb3 := Lib.hid (Hb2.out.trans (hb3.mono Hb2.out.size)); clear hb3
    go_wp2
    go_ret
    exact ⟨by rw [Hf.out]; rfl, Hb3.out⟩
  | true =>
    have hp := p_of ht
    have Hf := Lib.hid (follows_tab hok ht)
    have hnot := bits_andNot_nat (storyN p (qs.map (·.2))) (tabN p ms) (by have := storyN_lt (s := qs.map (·.2)) hp.1 hp.2; omega) (by have := tabN_lt ht; omega)
    have Hst := Lib.hid (fun w h hB => implStoryTable p qs B v w h hB)
    have Htt := Lib.hid (fun w h hB => implTableOf p ms B u w h hB)
    rw [storyV_yes hok] at Hst
    rw [tabV_N ht] at Htt
    rw [hok] at Hso
    rw [ht] at Hto
    clear hok ht hp
    generalize storyN p (qs.map (·.2)) = X at *
    generalize tabN p ms = Y at *
    generalize X ^^^ (X &&& Y) = Z at *
    go_enter Try.func11, Try.ntmps11
    go_wp2_with fail
    refine (Hso.out _ Hr.out hB).mono ?_
    rintro e w2 ⟨rfl, hb2⟩
    have hB2 : B ≤ w2.heap.size := Nat.le_trans hB hb2.size
    have Hm2 := Lib.hid (Hm.out.below (w' := w2) (fun q hq => hb2.block q (by omega)))
    have Hr2 := Lib.hid (Hr.out.below (w' := w2) (fun q hq => hb2.block q (by omega)))
    have Hb2 := Lib.hid hb2; clear hb2
    go_wp2_with fail
    refine (Hto.out _ Hm2.out hB2).mono ?_
    rintro e w3 ⟨rfl, hb3⟩
    have hB3 : B ≤ w3.heap.size := Nat.le_trans hB2 hb3.size
    have Hm3 := Lib.hid (Hm2.out.below (w' := w3) (fun q hq => hb3.block q (by omega)))
    have Hr3 := Lib.hid (Hr2.out.below (w' := w3) (fun q hq => hb3.block q (by omega)))
    have Hb3 := Lib.hid (Hb2.out.trans (hb3.mono Hb2.out.size)); clear hb3
    go_wp2_with fail
    refine (Hst.out _ Hr3.out hB3).mono ?_
    rintro e w4 ⟨rfl, hb4⟩
    have hB4 : B ≤ w4.heap.size := Nat.le_trans hB3 hb4.size
    have Hm4 := Lib.hid (Hm3.out.below (w' := w4) (fun q hq => hb4.block q (by omega)))
    have Hb4 := Lib.hid (Hb3.out.trans (hb4.mono Hb3.out.size)); clear hb4
    go_wp2_with fail
    refine (Htt.out _ Hm4.out hB4).mono ?_
    rintro e w5 ⟨rfl, hb5⟩
    have Hb5 := Lib.hid (Hb4.out.trans (hb5.mono Hb4.out.size)); clear hb5
    go_wp2
    go_ret
    exact ⟨by rw [Hf.out]; first | rfl | simp, Hb5.out⟩
end Go.Proofs.Ytefmoljipbbmmaa
/- Contracts of the program's proofs by cases: what is found. -/
namespace Go.Proofs.Ytefmoljipbbmmaa
open Go.RowKit Go.Joins
theorem news3f {w1 : World} {g : Nat} {a b c : Value} {T : TypeId} {w : World} (h : w1 = w.alloc (.cells #[a, b, c] T)) (hg : g = w.heap.size) : ∀ (j : Nat) (u : Value), ([a, b, c] : List Value)[j]? = some u → w1.cell? ((⟨g, 0, none⟩ : Addr).add j) = some u := by
  intro j u hj
  subst h; subst hg
  rw [add_zero11, cell_of_row _ w.heap.size j _ T (0, 0) (heap_alloc_new w _), ← hj]
  simp
/-- what is grown, told by what closes a case first -/
theorem first_leaf {P T : Nat} {Z : List Nat} {hf : Nat → Bool} {cl : List (Nat → Bool)} (hcl : ∀ (g : Int) (kn : List Int), g < 0 → closeB P hf cl g kn = closeT (agreeN P kn) T Z g) (hl : cl.length = Z.length) {f : Nat} {kn : List Int} {t : PT} {g : Int} (h : growT P hf cl f kn = some t) (hF : firstT (agreeN P kn) T Z = some g) : t = .leaf g := by
  unfold growT at h
  unfold firstT at hF
  rw [hcl (-1) kn (by omega)] at h
  split at hF
  · rename_i hc
    rw [if_pos hc] at h
    cases h; cases hF; rfl
  · rename_i hc
    rw [if_neg hc] at h
    have e : clashF P hf cl kn = (List.range Z.length).find? fun k : Nat => closeT (agreeN P kn) T Z (-2 - (k : Int)) := by
      unfold clashF
      rw [hl]
      congr 1
      funext k
      exact hcl _ kn (by omega)
    rw [e] at h
    cases hk : (List.range Z.length).find? fun k : Nat => closeT (agreeN P kn) T Z (-2 - (k : Int)) with
    | none => rw [hk] at hF; cases hF
    | some k =>
      rw [hk] at h hF
      cases h; cases hF; rfl
theorem first_node {P T : Nat} {Z : List Nat} {hf : Nat → Bool} {cl : List (Nat → Bool)} (hcl : ∀ (g : Int) (kn : List Int), g < 0 → closeB P hf cl g kn = closeT (agreeN P kn) T Z g) (hl : cl.length = Z.length) {f : Nat} {kn : List Int} {t : PT} (h : growT P hf cl f kn = some t) (hF : firstT (agreeN P kn) T Z = none) :
    ∃ (f' k : Nat) (a b : PT), f = f' + 1 ∧ leastU P kn = some k ∧ growT P hf cl f' (kn.set k 0) = some a ∧ growT P hf cl f' (kn.set k 1) = some b ∧ t = .node k a b := by
  unfold growT at h
  unfold firstT at hF
  rw [hcl (-1) kn (by omega)] at h
  split at hF
  · cases hF
  · rename_i hc
    rw [if_neg hc] at h
    have e : clashF P hf cl kn = (List.range Z.length).find? fun k : Nat => closeT (agreeN P kn) T Z (-2 - (k : Int)) := by
      unfold clashF
      rw [hl]
      congr 1
      funext k
      exact hcl _ kn (by omega)
    rw [e] at h
    cases hk : (List.range Z.length).find? fun k : Nat => closeT (agreeN P kn) T Z (-2 - (k : Int)) with
    | some k => rw [hk] at hF; cases hF
    | none =>
      rw [hk] at h
      dsimp only at h
      cases hu : leastU P kn with
      | none => rw [hu] at h; cases h
      | some k =>
        rw [hu] at h
        dsimp only at h
        cases f with
        | zero => cases h
        | succ f' =>
          dsimp only at h
          cases ha : growT P hf cl f' (kn.set k 0) with
          | none => rw [ha] at h; cases h
          | some a =>
            cases hb : growT P hf cl f' (kn.set k 1) with
            | none => rw [ha, hb] at h; cases h
            | some b =>
              rw [ha, hb] at h
              cases h
              exact ⟨f', k, a, b, rfl, rfl, ha, hb, rfl⟩
theorem grow_final {sp : List Sp3} {k : Nat} {a b : PT} : (sp ++ [((k : Int), 0, 0)] ++ a.flat (sp ++ [((k : Int), (0 : Int), (0 : Int))]).length ++ b.flat (sp ++ [((k : Int), (0 : Int), (0 : Int))] ++ a.flat (sp ++ [((k : Int), (0 : Int), (0 : Int))]).length).length).set sp.length ((k : Int), a.tgt (sp ++ [((k : Int), (0 : Int), (0 : Int))]).length, b.tgt (sp ++ [((k : Int), (0 : Int), (0 : Int))] ++ a.flat (sp ++ [((k : Int), (0 : Int), (0 : Int))]).length).length) = sp ++ (PT.node k a b).flat sp.length := by
  have h1 : (sp ++ [((k : Int), (0 : Int), (0 : Int))]).length = sp.length + 1 := by simp
  have h2 : (sp ++ [((k : Int), (0 : Int), (0 : Int))] ++ a.flat (sp ++ [((k : Int), (0 : Int), (0 : Int))]).length).length = sp.length + 1 + a.size := by rw [List.length_append, PT.flat_len, h1]
  rw [h2, h1]
  have e : sp ++ [((k : Int), (0 : Int), (0 : Int))] ++ a.flat (sp.length + 1) ++ b.flat (sp.length + 1 + a.size) = sp ++ ((k : Int), (0 : Int), (0 : Int)) :: (a.flat (sp.length + 1) ++ b.flat (sp.length + 1 + a.size)) := by simp
  rw [e, set_at rfl]
  rfl
theorem scells_one3 (a b c : Int) : scells [(a, b, c)] = [.int .i64 a, .int .i64 b, .int .i64 c] := rfl
/-- all are known ahead of a person, and nobody from there on -/
def UpTo (P : Nat) (kn : List Int) (k : Nat) : Prop := k ≤ P ∧ (∀ j, j < k → ¬ kn.getD j 0 < 0) ∧ ∀ j, k ≤ j → j < P → kn.getD j 0 < 0
theorem UpTo.none (P : Nat) : UpTo P (noneK P) 0 := ⟨Nat.zero_le _, fun j hj => by omega, fun j _ hj => by rw [noneK_get hj]; decide⟩
theorem UpTo.next {P : Nat} {kn : List Int} {k : Nat} (h : UpTo P kn k) (hl : kn.length = P) (hk : k < P) {z : Int} (hz : 0 ≤ z) : UpTo P (kn.set k z) (k + 1) := by
  refine ⟨hk, fun j hj => ?_, fun j h1 h2 => ?_⟩
  · rw [getD_set (by omega)]
    split
    · omega
    · exact h.2.1 j (by omega)
  · rw [getD_set (by omega), if_neg (by omega)]
    exact h.2.2 j (by omega) h2
theorem UpTo.least {P : Nat} {kn : List Int} {k j : Nat} (h : UpTo P kn k) (hj : leastU P kn = some j) : j = k ∧ k < P := by
  by_cases hk : k < P
  · rw [least_first hk h.2.1 (h.2.2 k (Nat.le_refl _) hk)] at hj
    cases hj; exact ⟨rfl, hk⟩
  · rw [least_all11 (fun i hi => h.2.1 i (by omega))] at hj
    cases hj
/-- what a call does that goes on finding: it hands back where to go on, and has made the splits of a tree -/
def FoundOut (b : Nat) (p T cv : Value) (sp : List Sp3) (g : Int) (w : World) (e : Ending) (w' : World) : Prop := e = .returned (.int .i64 g) ∧ Below b w w' ∧ ∃ sv, Box4 w' b p T cv sv ∧ w'.ownsRow (b + 1) TSp 3 sv sp.length (scells sp)
theorem FoundOut.mk {b : Nat} {p T cv sv : Value} {sp : List Sp3} {g : Int} {w w' : World} (hb : Below b w w') (hx : Box4 w' b p T cv sv) (ho : w'.ownsRow (b + 1) TSp 3 sv sp.length (scells sp)) : FoundOut b p T cv sp g w (.returned (.int .i64 g)) w' := ⟨rfl, hb, sv, hx, ho⟩
theorem FoundOut.out {b : Nat} {p T cv : Value} {sp : List Sp3} {g : Int} {w w' : World} {e : Ending} (h : FoundOut b p T cv sp g w e w') : e = .returned (.int .i64 g) ∧ Below b w w' ∧ ∃ sv, Box4 w' b p T cv sv ∧ w'.ownsRow (b + 1) TSp 3 sv sp.length (scells sp) := h
def FoundC (F P T : Nat) (Z : List Nat) (hf : Nat → Bool) (cl : List (Nat → Bool)) (f : Nat) : Prop := ∀ (kn : List Int) (k : Nat) (t : PT) (sp : List Sp3), KnOk P kn → UpTo P kn k → growT P hf cl f kn = some t → sp.length + t.size ≤ 15 →
  ∀ (b : Nat) (cv sv : Value) (w : World), Box4 w b (.int .i64 P) (.int .i64 T) cv sv → RdTabs w b cv Z → w.ownsRow (b + 1) TSp 3 sv sp.length (scells sp) →
    Calls Try.prog F #[.pointer (some ⟨b, 0, none⟩), .int .i64 (agreeN P kn), .int .i64 k] w (FoundOut b (.int .i64 P) (.int .i64 T) cv (sp ++ t.flat sp.length) (t.tgt sp.length) w)
attribute [local irreducible] holds tabN tabV holdsV sameV followsV alwaysV matterV claimOk mayT mayV ctabV ctabN storyV storyOk storyN storyT ctermV ctermL clT intsN agreeN closeB closeT hfV clL walkF KnOk UpTo FoundOut growT firstT scells
set_option maxRecDepth 100000 in
set_option maxHeartbeats 8000000 in
theorem implProved_step (P T : Nat) (h1 : 1 ≤ P) (h4 : P ≤ 4) (Z : List Nat) (hT : Hid (T < 65536)) (hf : Nat → Bool) (cl : List (Nat → Bool)) (hll : cl.length = Z.length)
    (hcl : ∀ (g : Int) (kn : List Int), g < 0 → closeB P hf cl g kn = closeT (agreeN P kn) T Z g) (f : Nat) (ih : ∀ f', f = f' + 1 → FoundC 48 P T Z hf cl f') : FoundC 48 P T Z hf cl f := by
  intro kn k t sp hkn hup hgr hsz b cv sv w hx ht hown
  have hA : Hid (agreeN (P : Int) kn < 65536) := agreeN_lt (by omega)
  have Hfe := Lib.hid (fun w hc hB => implFirstEnd (P : Int) (agreeN P kn) T Z hA hT b cv w hc hB)
  have Hx := Lib.hid hx
  have Ht := Lib.hid ht
  have Hown := Lib.hid hown
  obtain ⟨so, scap, rfl⟩ := own_len hown
  obtain ⟨co, ccap, rfl, hcle, hcm, _⟩ := ht.form
  unfold maxLen at hcm
  have hbw := hx.lt
  cases hF : firstT (agreeN P kn) T Z with
  | some g =>
    obtain rfl := first_leaf hcl hll hgr hF
    rw [hF, show FirstOut (some g) = .tuple #[.int .i64 g, .bool true] from rfl] at Hfe
    have e1 : sp ++ (PT.leaf g).flat sp.length = sp := by simp [PT.flat]
    rw [e1, show (PT.leaf g).tgt sp.length = g from rfl]
    clear ih hcl hF hgr hup hkn ht hown hll e1
    obtain ⟨x1, x2, x3, x4, x5, x6, x7, x8, x9⟩ := hx
    generalize agreeN (P : Int) kn = A at *
    generalize hL : sp.length = L at *
    have HL := Lib.hid hL; clear hL
    generalize Z.length = n at *
    go_enter Try.func48, Try.ntmps48
    go_wp2_with fail
    refine (Hfe.out _ Ht.out (by omega)).mono ?_
    rintro e w2 ⟨rfl, hb2⟩
    have Hx2 := Lib.hid (Hx.out.below hb2)
    have Ho2 := Lib.hid (own_below Hown.out hb2)
    have Hb2 := Lib.hid (hb2.mono (show b ≤ w.heap.size by omega)); clear hb2
    go_wp2
    go_ret
    exact FoundOut.mk Hb2.out Hx2.out (by rw [HL.out]; exact Ho2.out)
  | none =>
    obtain ⟨f', k', a, b', rfl, hu, hga, hgb, rfl⟩ := first_node hcl hll hgr hF
    obtain ⟨rfl, hkP⟩ := hup.least hu
    have hsz' : sp.length + (1 + a.size + b'.size) ≤ 15 := hsz
    obtain ⟨L1, L2, o, Hp, ho, hL⟩ := partedC P h1 h4 T kn hkn (k' : Int)
    have hko : kn.getD k' 0 < 0 := by unfold UpTo at hup; exact hup.2.2 k' (Nat.le_refl _) hkP
    rw [Int.toNat_natCast, decide_eq_true (show 0 ≤ (k' : Int) ∧ (k' : Int) < P by omega), decide_eq_true hko] at ho
    rw [Int.toNat_natCast] at hL
    obtain ⟨e1, e2⟩ := hL (by rw [ho]; rfl)
    have ih' := ih f' rfl
    unfold FoundC at ih'
    have hkl : kn.length = P := by unfold KnOk at hkn; exact hkn.1
    have hl1 : (sp ++ [((k' : Int), (0 : Int), (0 : Int))]).length = sp.length + 1 := by simp
    have hl2 : (sp ++ [((k' : Int), (0 : Int), (0 : Int))] ++ a.flat (sp ++ [((k' : Int), (0 : Int), (0 : Int))]).length).length = sp.length + 1 + a.size := by rw [List.length_append, PT.flat_len, hl1]
    have hcall1 := ih' (kn.set k' 0) (k' + 1) a (sp ++ [((k' : Int), 0, 0)]) (hkn.set hkP (by omega)) (hup.next hkl hkP (by omega)) hga (by omega) b (.slice co Z.length ccap)
    have hcall2 := ih' (kn.set k' 1) (k' + 1) b' (sp ++ [((k' : Int), (0 : Int), (0 : Int))] ++ a.flat (sp ++ [((k' : Int), (0 : Int), (0 : Int))]).length) (hkn.set hkP (by omega)) (hup.next hkl hkP (by omega)) hgb (by omega) b (.slice co Z.length ccap)
    rw [← e1, show ((k' + 1 : Nat) : Int) = (k' : Int) + 1 by omega] at hcall1
    rw [← e2, show ((k' + 1 : Nat) : Int) = (k' : Int) + 1 by omega] at hcall2
    have hfinal := grow_final (sp := sp) (k := k') (a := a) (b := b')
    have hl3 : (sp ++ [((k' : Int), (0 : Int), (0 : Int))] ++ a.flat (sp ++ [((k' : Int), (0 : Int), (0 : Int))]).length ++ b'.flat (sp ++ [((k' : Int), (0 : Int), (0 : Int))] ++ a.flat (sp ++ [((k' : Int), (0 : Int), (0 : Int))]).length).length).length = sp.length + 1 + a.size + b'.size := by rw [List.length_append, PT.flat_len, hl2]
    rw [show (PT.node k' a b').tgt sp.length = (sp.length : Int) from rfl, ← hfinal]
    clear hfinal ih ih' hgr hga hgb hu hcl hll hup hkn hkl hko e1 e2 hL hsz ht
    generalize a.tgt (sp ++ [((k' : Int), (0 : Int), (0 : Int))]).length = g1 at *
    generalize hS2 : sp ++ [((k' : Int), (0 : Int), (0 : Int))] ++ a.flat (sp ++ [((k' : Int), (0 : Int), (0 : Int))]).length = S2 at *
    generalize b'.tgt S2.length = g2 at *
    generalize hS3 : S2 ++ b'.flat S2.length = S3 at *
    rw [ho] at Hp
    rw [hF, show FirstOut none = .tuple #[.int .i64 0, .bool false] from rfl] at Hfe
    generalize agreeN (P : Int) kn = A at *
    have Hcall1 := Lib.hid hcall1
    have Hcall2 := Lib.hid hcall2
    have Hl2 := Lib.hid hl2
    have Hl3 := Lib.hid hl3
    have Hsz := Lib.hid hsz'
    obtain ⟨ii, hii, hz0, hz1, hz2⟩ := info_parts Try.infoSp
    have Ii := Lib.hid hii
    have Iz0 := Lib.hid hz0
    have Iz1 := Lib.hid hz1
    have Iz2 := Lib.hid hz2
    have hn15 : sp.length ≤ 14 := by omega
    have hkS : k' < 4 := by omega
    clear hcall1 hcall2 hl1 hl2 hl3 hS2 hS3 ho hF hown hii hz0 hz1 hz2 hsz'
    have hkw : (k' : Int) + 1 ≤ 5 := by omega
    obtain ⟨x1, x2, x3, x4, x5, x6, x7, x8, x9⟩ := hx
    generalize hL : sp.length = L at *
    have HL := Lib.hid hL; clear hL
    go_enter Try.func48, Try.ntmps48
    go_wp2_with fail
    refine (Hfe.out _ Ht.out (by omega)).mono ?_
    rintro e w2 ⟨rfl, hb2⟩
    have hx2 := Hx.out.below hb2
    have Hx2 := Lib.hid hx2
    have Ho2 := Lib.hid (own_below Hown.out hb2)
    have Ht2 := Lib.hid (Ht.out.below (w' := w2) (fun q hq => hb2.block q (by omega)))
    have Hb2 := Lib.hid (hb2.mono (show b ≤ w.heap.size by omega)); clear hb2
    clear x1 x2 x3 x4 x5 x6 x7 x8 x9 Hfe Hown Hx
    obtain ⟨x1, x2, x3, x4, x5, x6, x7, x8, x9⟩ := hx2
    have hnw : w2.heap.size ≤ w2.heap.size := Nat.le_refl _
    go_upto_region 6 with (first
      | (at_builtin
         refine wpList_append_own _ rfl (.tmp 35) (.tmp 38) 39 rfl (b + 1) TSp ii (.agg #[.int .i64 0, .int .i64 0, .int .i64 0]) 3 24 Try.underlying39 Ii.out Iz0.out Iz1.out Iz2.out rfl (by decide) _ L (scells sp) rfl (Ho2.out.alloc _) ⟨w2.heap.size, 0, none⟩ 1 _ [.int .i64 k', .int .i64 0, .int .i64 0] rfl rfl (news3f rfl rfl) (by simp [Value.oneCell']) (by unfold maxLen; omega) (by omega) ?_ ?_
         go_must (simp; omega)
         go_must (intro v9 w9 hown9 hgr9 hat9
                  obtain ⟨f9, c9, hv9⟩ := own_len hown9
                  subst hv9
                  have hx9 := (Hx2.out.alloc (.cells #[.int .i64 k', .int .i64 0, .int .i64 0] TSp)).grown hgr9 (fun e => by have := (Ho2.out.lt _ e).1; omega)
                  have Hb9 := Lib.hid (below_grown_rowP (w1 := w2.alloc (.cells #[.int .i64 k', .int .i64 0, .int .i64 0] TSp)) (Hb2.out.alloc (by omega) _) hgr9 (by simp; omega) (fun q hq => by have := (Ho2.out.lt q hq).1; omega))
                  have Ho9 := Lib.hid hown9
                  have Hx9 := Lib.hid hx9
                  have Hg9 := Lib.hid hgr9
                  obtain ⟨y1, y2, y3, y4, y5, y6, y7, y8, y9⟩ := hx9
                  clear hown9 hgr9 hat9))
      | fail)
    obtain ⟨hx10, hg10⟩ := Hx9.out.set3 (.slice f9 (L + 1) c9)
    have hx9l := Hx9.out.lt
    have Hb10 := Lib.hid (below_grown_rowP Hb9.out hg10 (by omega) (fun q hq => by cases hq; omega))
    have ho10 := own_row Ho9.out hg10 (by omega)
    rw [← scells_one3, ← scells_append] at ho10
    obtain ⟨w10, hw10⟩ : ∃ w10, w10 = w9.setCell ⟨b, 3, none⟩ (.slice f9 (L + 1) c9) := ⟨_, rfl⟩
    rw [← hw10] at hx10 Hb10 ho10
    rw [← hw10]
    have Hx10 := Lib.hid hx10
    have Ho10 := Lib.hid ho10
    have hl10 := hx10.lt
    clear hw10 y1 y2 y3 y4 y5 y6 y7 y8 y9 x1 x2 x3 x4 x5 x6 x7 x8 x9 hg10 ho10 Hg9 Hb9 Ho9 Hx9 Hx2 Ho2 Ht2 Hb2 hx9l
    obtain ⟨x1, x2, x3, x4, x5, x6, x7, x8, x9⟩ := hx10
    go_wp2_with fail
    refine (Hp.out _ _).mono ?_
    rintro e w11 ⟨rfl, hb11⟩
    have hx11 := Hx10.out.below hb11
    have Hx11 := Lib.hid hx11
    have ho11 := own_below Ho10.out hb11
    have Hb11 := Lib.hid (Hb10.out.trans (hb11.mono (by omega)))
    have hl1 : (sp ++ [((k' : Int), (0 : Int), (0 : Int))]).length = L + 1 := by simp [HL.out]
    have ho11' : w11.ownsRow (b + 1) TSp 3 (.slice f9 (L + 1) c9) (sp ++ [((k' : Int), (0 : Int), (0 : Int))]).length (scells (sp ++ [((k' : Int), 0, 0)])) := by rw [hl1]; exact ho11
    have hc1 := Hcall1.out (.slice f9 (L + 1) c9) w11 hx11 (Ht.out.below (w' := w11) Hb11.out.block) ho11'
    have Hc1 := Lib.hid hc1
    clear hc1 ho11 ho11' hl1 hb11 Hcall1 x1 x2 x3 x4 x5 x6 x7 x8 x9 Hx10 Ho10 Hb10 Hp
    obtain ⟨x1, x2, x3, x4, x5, x6, x7, x8, x9⟩ := hx11
    go_wp2_with fail
    refine Hc1.out.mono ?_
    intro e w12 hout
    obtain ⟨rfl, hb12, sv12, hx12, ho12⟩ := hout.out
    obtain ⟨f12, c12, rfl⟩ := own_len ho12
    have Hb12 := Lib.hid (Hb11.out.trans hb12)
    have hc2 := Hcall2.out (.slice f12 S2.length c12) w12 hx12 (Ht.out.below (w' := w12) Hb12.out.block) ho12
    have Hc2 := Lib.hid hc2
    have Hx12 := Lib.hid hx12
    clear hc2 ho12 hb12 Hcall2 hout Hc1 Hb11 Hx11 x1 x2 x3 x4 x5 x6 x7 x8 x9
    obtain ⟨x1, x2, x3, x4, x5, x6, x7, x8, x9⟩ := hx12
    generalize hLS2 : S2.length = LS2 at *
    clear hLS2
    go_wp2_with fail
    refine Hc2.out.mono ?_
    intro e w13 hout
    obtain ⟨rfl, hb13, sv13, hx13, ho13⟩ := hout.out
    have hL3 : L < S3.length := by have := Hl3.out; omega
    obtain ⟨g13, c13, rfl⟩ : ∃ g13 c13, sv13 = .slice (some ⟨g13, 0, none⟩) S3.length c13 := by
      rcases ho13.2 with ⟨_, h0⟩ | ⟨g12, c12, cur, h, _⟩
      · omega
      · exact ⟨g12, c12, h⟩
    have hg13 := (ho13.lt g13 rfl).1
    have Hb13 := Lib.hid (Hb12.out.trans hb13)
    have Hx13 := Lib.hid hx13
    have hsc13 : S3.length ≤ c13 := by
      rcases ho13.2 with ⟨h, _⟩ | ⟨_, _, cur, h, _, _, h2, _⟩
      · cases h
      · cases h; exact h2
    obtain ⟨ho14, hb14, ⟨ca, cb, cc, q1, q2, q3⟩, z1, z2, z3⟩ := split_stored ho13 rfl L hL3 ((k' : Int), g1, g2)
    dsimp only at ho14 hb14
    have hg14 : w13.grownBy (((w13.setCell ⟨g13, L * 3, none⟩ (.int .i64 k')).setCell ⟨g13, L * 3 + 1, none⟩ (.int .i64 g1)).setCell ⟨g13, L * 3 + 2, none⟩ (.int .i64 g2)) (some g13) := grown_trans (grown_trans (grown_set _ _ _ _) (grown_set _ _ _ _)) (grown_set _ _ _ _)
    have Hx14 := Lib.hid (Hx13.out.grown hg14 (by intro e; cases e; omega))
    have Ho14 := Lib.hid ho14
    have Hb14 := Lib.hid (Hb13.out.trans (hb14.mono (by omega)))
    clear ho13 hb13 ho14 hb14 hg14 hout Hc2 Hb12 Hx12 Hx13 x1 x2 x3 x4 x5 x6 x7 x8 x9
    obtain ⟨x1, x2, x3, x4, x5, x6, x7, x8, x9⟩ := hx13
    generalize hLS3 : S3.length = L3 at *
    have HLS3 := Lib.hid hLS3; clear hLS3
    have hmL : (L : Int) < (L3 : Int) := by omega
    go_upto_region 10 with fail
    generalize ((w13.setCell ⟨g13, L * 3, none⟩ (.int .i64 k')).setCell ⟨g13, L * 3 + 1, none⟩ (.int .i64 g1)).setCell ⟨g13, L * 3 + 2, none⟩ (.int .i64 g2) = w14 at *
    clear q1 q2 q3 z1 z2 z3
    go_wp2
    go_ret
    exact FoundOut.mk Hb14.out Hx14.out (by rw [List.length_set, HLS3.out]; exact Ho14.out)
theorem implProved (P T : Nat) (h1 : 1 ≤ P) (h4 : P ≤ 4) (Z : List Nat) (hT : Hid (T < 65536)) (hf : Nat → Bool) (cl : List (Nat → Bool)) (hll : cl.length = Z.length)
    (hcl : ∀ (g : Int) (kn : List Int), g < 0 → closeB P hf cl g kn = closeT (agreeN P kn) T Z g) : ∀ f, FoundC 48 P T Z hf cl f := by
  intro f
  induction f with
  | zero => exact implProved_step P T h1 h4 Z hT hf cl hll hcl 0 (fun f' h => by omega)
  | succ f ih => exact implProved_step P T h1 h4 Z hT hf cl hll hcl (f + 1) (fun f' h => (Nat.succ.inj h) ▸ ih)
end Go.Proofs.Ytefmoljipbbmmaa
/- Contract of the program's FindProof. -/
namespace Go.Proofs.Ytefmoljipbbmmaa
open Go.RowKit Go.Joins
attribute [local irreducible] holds tabN tabV holdsV sameV followsV alwaysV matterV claimOk mayT mayV ctabV ctabN storyV storyOk storyN storyT ctermV ctermL clT intsN agreeN closeB closeT hfV clL walkF KnOk UpTo FoundOut growT firstT scells followsF findF
set_option maxRecDepth 100000 in
set_option maxHeartbeats 8000000 in
theorem implFindProof (p : Int) (qs : List QC) (ms : List (Int × Int)) (B : Nat) (v u : Value) (w : World) (hr : RdStory w B v qs) (hr' : RdMarks w B u ms) (hB : B ≤ w.heap.size) :
    Calls Try.prog 20 #[.int .i64 p, v, u] w (FindOut (foundS (findF p (qs.map (·.2)) ms)) (foundG (findF p (qs.map (·.2)) ms)) (findF p (qs.map (·.2)) ms).isSome w) := by
  have hff := fun w h h' hB => implFollowsFrom p qs ms B v u w h h' hB
  have Hr := Lib.hid hr
  have Hm := Lib.hid hr'
  clear hr hr'
  obtain ⟨w1, hw1, hx1, hb1, hs1⟩ := Box.new w (.int .i64 0) (.slice none 0 0) 41
  have Hr1 := Lib.hid (Hr.out.below (w' := w1) (fun q hq => hb1.block q (by omega)))
  have Hm1 := Lib.hid (Hm.out.below (w' := w1) (fun q hq => hb1.block q (by omega)))
  have hB1 : B ≤ w1.heap.size := by omega
  have Hb1 := Lib.hid hb1
  have HX1 := Lib.hid hx1
  clear hb1 Hr Hm hs1
  cases hfo : followsF p (qs.map (·.2)) ms with
  | false =>
    have hno : findF p (qs.map (·.2)) ms = none := by
      have h := find_iff (p := p) (s := qs.map (·.2)) (ms := ms)
      rw [hfo] at h
      cases hh : findF p (qs.map (·.2)) ms with
      | none => rfl
      | some t => rw [hh] at h; cases h
    rw [hno, show foundS none = [] from rfl, show foundG none = 0 from rfl, isSome_noneT]
    rw [hfo] at hff
    have Hff := Lib.hid hff
    clear hff hfo hno
    obtain ⟨x1, x2, x3, x4, x5⟩ := hx1
    go_enter Try.func20, Try.ntmps20
    go_upto_region 1 with fail
    rw [← hw1]
    clear hw1
    go_wp2_with fail
    refine (Hff.out _ Hr1.out Hm1.out hB1).mono ?_
    rintro e w2 ⟨rfl, hb2⟩
    have hx2 := HX1.out.below hb2
    obtain ⟨w6, e6, hx6, hout⟩ := proof_fin hx2 (Hb1.out.trans (hb2.mono Hb1.out.size)) (own_nil11 w2 (w.heap.size + 1)) 0 false
    have E6 := Lib.hid e6
    have Hout := Lib.hid hout
    obtain ⟨y1, y2, y3, y4, y5⟩ := hx2
    clear e6 hout hb2 x1 x2 x3 x4
    go_wp2
    rw [← E6.out]
    obtain ⟨z1, z2, _⟩ := hx6
    exact bodyPost_ret (by simp [results, Try.results20, go_sem, z1, z2]) rfl Hout.out
  | true =>
    obtain ⟨hok, ht, _⟩ := followsF_iff.1 hfo
    obtain ⟨h1, h4⟩ := p_of ht
    obtain ⟨P, rfl⟩ := Int.eq_ofNat_of_zero_le (show 0 ≤ p by omega)
    obtain ⟨t, hft⟩ : ∃ t, findF (P : Int) (qs.map (·.2)) ms = some t := by
      have h := find_iff (p := (P : Int)) (s := qs.map (·.2)) (ms := ms)
      rw [hfo] at h
      exact Option.isSome_iff_exists.1 h
    have hgt := hft
    rw [findF_yes hok ht, Int.toNat_natCast] at hgt
    have htsz : t.size ≤ 15 := PT.size_15 (by omega) (grow_ok _ _ _ hgt)
    rw [hft, show foundS (some t) = t.flat 0 from rfl, show foundG (some t) = t.tgt 0 from rfl, show (some t).isSome = true from rfl]
    have Hgr := Lib.hid (fun w h h' hB => implGroundsOf (P : Int) qs ms hok ht B v u w h h' hB)
    have Hall := Lib.hid (fun w => implAllWorlds (P : Int) h1 h4 w)
    have hAll : allV (P : Int) = ((agreeN (P : Int) (noneK P) : Nat) : Int) := by
      have := agree_all h1
      rw [Int.toNat_natCast] at this
      rw [this]; unfold allV; rw [Int.toNat_natCast]
    rw [hAll] at Hall
    have HT : Hid (tabN (P : Int) ms < 65536) := tabN_lt ht
    have HZ6 : Hid ((clT (P : Int) (qs.map (·.2))).length ≤ 6) := by unfold Hid; rw [clT_len]; exact (storyOk_iff.1 hok).2.2
    have HZb : Hid (∀ j, (clT (P : Int) (qs.map (·.2))).getD j 0 < 65536) := clT_lt h1 h4
    have hpv := implProved P (tabN (P : Int) ms) (by omega) (by omega) (clT (P : Int) (qs.map (·.2))) HT (hfV P ms) (clL P (qs.map (·.2))) (by rw [clL_len, clT_len]) (fun g kn hg => by
      have := close_T (p := (P : Int)) (s := qs.map (·.2)) (ms := ms) (kn := kn) hg
      rwa [Int.toNat_natCast] at this) P
    unfold FoundC at hpv
    have hcall := hpv (noneK P) 0 t [] (KnOk.none P) (UpTo.none P) hgt (by simpa using htsz)
    have e0 : ([] : List Sp3) ++ t.flat ([] : List Sp3).length = t.flat 0 := by simp
    rw [e0, show t.tgt ([] : List Sp3).length = t.tgt 0 from rfl, show ((0 : Nat) : Int) = 0 from rfl] at hcall
    have Hcall := Lib.hid hcall
    rw [hfo] at hff
    have Hff := Lib.hid hff
    clear hpv hcall hff hfo hAll hgt hft hok ht e0 htsz h1 h4
    generalize clT (P : Int) (qs.map (·.2)) = Z at *
    generalize tabN (P : Int) ms = T at *
    generalize agreeN (P : Int) (noneK P) = A at *
    generalize t.flat 0 = S at *
    generalize t.tgt 0 = G at *
    obtain ⟨x1, x2, x3, x4, x5⟩ := hx1
    go_enter Try.func20, Try.ntmps20
    go_upto_region 1 with fail
    rw [← hw1]
    clear hw1
    go_wp2_with fail
    refine (Hff.out _ Hr1.out Hm1.out hB1).mono ?_
    rintro e w2 ⟨rfl, hb2⟩
    have hs2 := hb2.size
    have Hr2 := Lib.hid (Hr1.out.below (w' := w2) (fun q hq => hb2.block q (by omega)))
    have Hm2 := Lib.hid (Hm1.out.below (w' := w2) (fun q hq => hb2.block q (by omega)))
    have HX2 := Lib.hid (HX1.out.below hb2)
    have Hb2 := Lib.hid (Hb1.out.trans (hb2.mono Hb1.out.size))
    have hB2 : B ≤ w2.heap.size := by omega
    clear hb2 x1 x2 x3 x4 hs2
    go_wp2_with fail
    refine (Hgr.out _ Hr2.out Hm2.out hB2).mono ?_
    rintro e w3 ⟨cv, rfl, ho3, hb3⟩
    obtain ⟨co, cc, rfl⟩ := own_len ho3
    have ht3 := RdTabs.of_own ho3 HZ6.out HZb.out
    have HX3 := Lib.hid (HX2.out.below hb3)
    have Hb3 := Lib.hid (Hb2.out.trans (hb3.mono Hb2.out.size))
    obtain ⟨w4, hw4, hy4, hb4, hs4⟩ := Box4.new w3 (.int .i64 P) (.int .i64 T) (.slice co Z.length cc) (.slice none 0 0) 84
    have hx3l := HX3.out.2.2.2.2
    have Hb4 := Lib.hid (Hb3.out.trans (hb4.mono (by omega)))
    have HX4 := Lib.hid (HX3.out.below hb4)
    have hc := Hcall.out w3.heap.size (.slice co Z.length cc) (.slice none 0 0) w4 hy4 (ht3.below hb4.block) (own_nil11 w4 (w3.heap.size + 1))
    have Hc := Lib.hid hc
    have hlt3 : w.heap.size < w3.heap.size := hx3l
    obtain ⟨y1, y2, y3, y4, y5, y6, y7, y8, y9⟩ := hy4
    obtain ⟨b, hb⟩ : ∃ b, b = w3.heap.size := ⟨_, rfl⟩
    rw [← hb] at y1 y2 y3 y4 y5 y6 y7 y8 y9 Hc hlt3
    clear hc ht3 ho3 hb3 hb4 hs4 hx3l Hcall
    go_upto_region 4 with fail
    rw [← hw4, ← hb]
    clear hw4 hb
    go_wp2_with fail
    refine (Hall.out _).mono ?_
    rintro e w' ⟨rfl, rfl⟩
    go_wp2_with fail
    refine Hc.out.mono ?_
    intro e w5 hout
    obtain ⟨rfl, hb5, sv, hy5, ho5⟩ := hout.out
    obtain ⟨so, scap, rfl⟩ := own_len ho5
    have hx5 := HX4.out.belowAt hb5 hlt3
    obtain ⟨w6, e6, hx6, hout6⟩ := proof_fin hx5 (Hb4.out.trans (hb5.mono (by omega))) (own_mono (base := w.heap.size + 1) ho5 (by omega)) G true
    have E6 := Lib.hid e6
    have Hout := Lib.hid hout6
    clear y1 y2 y3 y4 y5 y6 y7 y8 y9 hout hout6 e6 hb5 ho5 Hc
    obtain ⟨y1, y2, y3, y4, y5, y6, y7, y8, y9⟩ := hy5
    obtain ⟨x1, x2, x3, x4, x5'⟩ := hx5
    generalize S.length = L at *
    go_wp2
    rw [← E6.out]
    obtain ⟨z1, z2, _⟩ := hx6
    exact bodyPost_ret (by simp [results, Try.results20, go_sem, z1, z2]) rfl Hout.out
end Go.Proofs.Ytefmoljipbbmmaa
/- Contracts of the program's functions of stage 11. -/
namespace Go.Proofs.Ytefmoljipbbmmaa
open Go.RowKit
theorem proofI_here : True := trivial
end Go.Proofs.Ytefmoljipbbmmaa
/- Contracts of what the laws do with claims. -/
namespace Go.Proofs.Ytefmoljipbbmmaa
open Go.RowKit Go.Joins
/-- two blocks laid, one behind the other -/
theorem boxes_new (w : World) (a b c d : Value) (T U : TypeId) : ∃ w2 : World, w2 = (w.alloc (.cells #[a, b] T)).alloc (.cells #[c, d] U) ∧ Box w2 w.heap.size a b ∧ Box w2 (w.heap.size + 1) c d ∧ Below w.heap.size w w2 ∧ w.heap.size + 1 < w2.heap.size := by
  obtain ⟨w1, e1, h1, hb1, hs1⟩ := Box.new w a b T
  obtain ⟨w2, e2, h2, hb2, hs2⟩ := Box.new w1 c d U
  have e : w1.heap.size = w.heap.size + 1 := by rw [e1]; simp
  rw [e] at h2 hs2
  exact ⟨w2, by rw [e2, e1], h1.below hb2, h2, hb1.trans (hb2.mono hb1.size), hs2⟩
set_option maxHeartbeats 1000000 in
theorem eqClaim (k : Int) (ms : List (Int × Int)) (B B' : Nat) (u u' : Value) (w : World) (hr : RdMarks w B u ms) (hr' : RdMarks w B' u' ms) (hB : B ≤ w.heap.size) (hB' : B' ≤ w.heap.size) :
    Calls Try.prog 36 #[.agg #[.int .i64 k, u], .agg #[.int .i64 k, u']] w fun e w' => e = .returned (.bool true) ∧ Below w.heap.size w w' := by
  go_enter Try.func36, Try.ntmps36
  go_upto_region 1 with fail
  obtain ⟨w2, hw2, hx, hy, hb, hs⟩ := boxes_new w (.int .i64 k) u (.int .i64 k) u' TC TC
  rw [← hw2]
  have Hr := Lib.hid (hr.below (w' := w2) (fun q hq => hb.block q (by omega)))
  have Hr' := Lib.hid (hr'.below (w' := w2) (fun q hq => hb.block q (by omega)))
  have hB2 : B ≤ w2.heap.size := by omega
  have hB2' : B' ≤ w2.heap.size := by omega
  obtain ⟨x1, x2, _⟩ := hx
  obtain ⟨y1, y2, _⟩ := hy
  have Hb := Lib.hid hb
  clear hr hr' hb hw2
  go_wp2_with fail
  refine (eqMarkS ms ms _ _ _ _ _ Hr.out Hr'.out hB2 hB2').mono ?_
  rintro e w3 ⟨rfl, hb3⟩
  rw [show decide (ms = ms) = true from by simp]
  have Hb3 := Lib.hid (Hb.out.trans (hb3.mono Hb.out.size)); clear hb3
  go_wp2
  go_ret
  exact ⟨rfl, Hb3.out⟩
set_option maxHeartbeats 1000000 in
theorem szClaim (k : Int) (ao : Option Addr) (n cap : Nat) (hn : (n : Int) ≤ 9223372036854775807) (w : World) :
    Calls Try.prog 25 #[.agg #[.int .i64 k, .slice ao n cap], .int .i64 1048576] w fun e w' => e = .returned (.int .i64 (if n ≤ 1048576 then 1048576 - (n : Int) else -1)) ∧ Below w.heap.size w w' := by
  have hv : (if n ≤ 1048576 then 1048576 - (n : Int) else -1) = 1048576 - (n : Int) ∧ n ≤ 1048576 ∨ (if n ≤ 1048576 then 1048576 - (n : Int) else -1) = -1 := by
    by_cases h : n ≤ 1048576
    · left; rw [if_pos h]; exact ⟨rfl, h⟩
    · right; rw [if_neg h]
  have Hz := Lib.hid (fun w => szMarkS ao n cap hn w)
  generalize (if n ≤ 1048576 then 1048576 - (n : Int) else -1) = V at *
  have hV : ¬ V < 0 ∨ V = -1 := by
    rcases hv with ⟨rfl, h⟩ | rfl
    · left; omega
    · right; rfl
  clear hv
  have hbw : ∀ o, Below w.heap.size w (w.alloc o) := fun o => (Below.refl _ _).alloc (Nat.le_refl _) o
  rcases hV with hV | rfl
  all_goals
    go_enter Try.func25, Try.ntmps25
    go_wp2_with fail
    refine (Hz.out _).mono ?_
    rintro e w' ⟨rfl, rfl⟩
    go_wp2
    go_ret
    exact ⟨rfl, hbw _⟩
set_option maxHeartbeats 2000000 in
theorem toClaim (k : Int) (zs : List (Int × Int)) (hsz : zs.length ≤ 1048576) (B : Nat) (a : Value) (w : World) (hx : RdMarks w B a zs) (hB : B ≤ w.heap.size) :
    Calls Try.prog 30 #[.agg #[.int .i64 k, a]] w fun e w' => ∃ v, e = .returned (.agg #[.int .i64 k, v]) ∧ w'.ownsRow w.heap.size TM 2 v zs.length (mcells zs) ∧ Below w.heap.size w w' := by
  go_enter Try.func30, Try.ntmps30
  go_upto_region 1 with fail
  obtain ⟨w2, hw2, hx2, hy2, hb2, hs2⟩ := boxes_new w (.int .i64 k) a (.int .i64 0) (.slice none 0 0) 52 TC
  rw [← hw2]
  clear hw2
  go_upto_region 2 with fail
  obtain ⟨w3, hw3, hz3, hb3, hs3⟩ := Box.new w2 (.int .i64 0) (.slice none 0 0) TC
  rw [← hw3]
  clear hw3
  have hx3 := hx2.below hb3
  have hy3 := hy2.below hb3
  obtain ⟨w4, e4, hz4, hg4⟩ := hz3.set0 (.int .i64 k)
  have hx4 := hx3.grown hg4 (by simp; omega)
  have hy4 := hy3.grown hg4 (by simp; omega)
  have hb04 : Below w.heap.size w w4 := (hb2.trans (hb3.mono hb2.size)).grown hg4 (by have := hb2.size; have := hb3.size; omega) (fun q hq => by cases hq; exact hb2.size)
  have Hr4 := Lib.hid (hx.below (w' := w4) (fun q hq => hb04.block q (by omega)))
  have hB4 : B ≤ w4.heap.size := by have := hb04.size; omega
  have Hx4 := Lib.hid hx4
  have Hy4 := Lib.hid hy4
  have Hz4 := Lib.hid hz4
  have E4 := Lib.hid e4
  have Hb4 := Lib.hid hb04
  have hs4 := hg4.size
  obtain ⟨z1, z2, z3, z4, z5⟩ := hz3
  obtain ⟨x1, x2, x3, x4, x5⟩ := hx3
  clear hx hx2 hy2 hy3 hx4 hy4 hz4 hg4 e4 hb04 hb2 hb3
  go_upto_region 3 with fail
  rw [← E4.out]
  clear z1 z2 z3 z4 z5 x1 x2 x3 x4 x5
  have x1 := Hx4.out.1
  have x2 := Hx4.out.2.1
  go_wp2_with fail
  refine (toMarkS zs hsz _ _ _ Hr4.out hB4).mono ?_
  rintro e w5 ⟨v, rfl, hown, hb5⟩
  obtain ⟨vo, vc, hv⟩ := own_len hown
  subst hv
  have hz5 := Hz4.out.below hb5
  have hy5 := Hy4.out.below hb5
  have hb05 := Hb4.out.trans (hb5.mono Hb4.out.size)
  obtain ⟨w6, e6, hz6, hg6⟩ := hz5.set1 (.slice vo zs.length vc)
  have hs5 := hb5.size
  have hy6 := hy5.grown hg6 (by simp; omega)
  have hown6 := own_row hown hg6 (by omega)
  obtain ⟨w7, e7, hy7, hg7⟩ := hy6.set (.int .i64 k) (.slice vo zs.length vc)
  have hown7 := own_row hown6 hg7 (by omega)
  have hout := (hb05.grown hg6 hb05.size (fun q hq => by cases hq; omega)).grown hg7 (by have := hg6.size; have := hb05.size; omega) (fun q hq => by cases hq; omega)
  have Hout := Lib.hid hout
  have Hown := Lib.hid (own_mono (base := w.heap.size) hown7 (by have := Hb4.out.size; omega))
  have E6 := Lib.hid e6
  have E7 := Lib.hid e7
  have Hy7 := Lib.hid hy7
  obtain ⟨y1, y2, y3, y4, y5⟩ := hy6
  obtain ⟨u1, u2, u3, u4, u5⟩ := hz6
  obtain ⟨z1, z2, z3, z4, z5⟩ := hz5
  clear hb5 hb05 hown hown6 hown7 hout hg6 hg7 e6 e7 hy7 hy5 x1 x2
  go_upto_region 4 with fail
  rw [← E6.out]
  clear z1 z2 z3 z4 z5
  go_wp2
  rw [← E7.out]
  obtain ⟨q1, q2, _⟩ := Hy7.out
  exact bodyPost_ret (v := .agg #[.int .i64 k, .slice vo zs.length vc]) (by simp [results, Try.results30, go_sem, q1, q2]) rfl ⟨_, rfl, Hown.out, Hout.out⟩
end Go.Proofs.Ytefmoljipbbmmaa

/- Contracts of the reference's chains of questions, and of who is asked alike. -/
import Derived.Test.YtemldnjpcnogpaaAsk
namespace Go.Proofs.Ytemldnjpcnogpaa
open Go.RowKit Go.Joins
theorem chain_no_term {p : Int} {l : List Int} {ms : List (Int × Int)} (h : termOk p ms = false) : chainOk p l ms = false ∧ chainV p l ms = [] := by
  have e : chainOk p l ms = false := by unfold chainOk; rw [h]; rfl
  exact ⟨e, by unfold chainV; rw [e]; rfl⟩
theorem chain_long {p : Int} {l : List Int} {ms : List (Int × Int)} (h : 15 < l.length) : chainOk p l ms = false ∧ chainV p l ms = [] := by
  have e : chainOk p l ms = false := by
    unfold chainOk
    cases ht : termOk p ms with
    | false => rfl
    | true =>
      cases hc : termOk p (chainL l ms) with
      | false => rfl
      | true => have := ((chain_ok ht).1 hc).2; omega
  exact ⟨e, by unfold chainV; rw [e]; rfl⟩
theorem chain_yes {p : Int} {l : List Int} {ms : List (Int × Int)} (h : termOk p ms = true) : chainOk p l ms = termOk p (chainL l ms) ∧ chainV p l ms = if termOk p (chainL l ms) then chainL l ms else [] := by
  have e : chainOk p l ms = termOk p (chainL l ms) := by unfold chainOk; rw [h]; rfl
  exact ⟨e, by unfold chainV; rw [e]⟩
theorem chain_drop {l : List Int} {ms : List (Int × Int)} {i : Nat} (hi : i < l.length) : chainL (l.drop i) ms = ctermL (l.getD i 0, chainL (l.drop (i + 1)) ms) := by
  rw [List.drop_eq_getElem_cons hi, show l.getD i 0 = l[i] by simp [List.getD, hi]]
  rfl
theorem chain_end (l : List Int) (ms : List (Int × Int)) : chainL (l.drop l.length) ms = ms := by rw [List.drop_length]; rfl
theorem chain_I64 {ms : List (Int × Int)} (hi : I64s ms) : ∀ l : List Int, (∀ z ∈ l, I64 z) → I64s (chainL l ms) := by
  intro l
  induction l with
  | nil => intro _; exact hi
  | cons z r ih => intro h; exact I64s_cterm7 (h z (by simp)) (ih fun y hy => h y (by simp [hy]))
theorem chain_len_drop {l : List Int} {ms : List (Int × Int)} (i : Nat) : (chainL (l.drop i) ms).length = ms.length + 2 * (l.length - i) := by rw [chain_len, List.length_drop]
attribute [local irreducible] holds tabN tabV holdsV sameV followsV alwaysV matterV claimOk mayT mayV ctabV ctabN storyV storyOk storyN storyT ctermV ctermL ansN inOk chainL chainOk chainV alikeV liesN mcells
set_option maxRecDepth 100000 in
set_option maxHeartbeats 4000000 in
theorem specChainTerm (p : Int) (zs : List Int) (ms : List (Int × Int)) (hz : ∀ z ∈ zs, I64 z) (hlen : ms.length ≤ 2000000) (B : Nat) (a u : Value) (w : World) (ha : RdInts w B a zs) (hr : RdMarks w B u ms) (hB : B ≤ w.heap.size) :
    Calls Try.prog 27 #[.int .i64 p, a, u] w (RowOk (chainV p zs ms) (chainOk p zs ms) w) := by
  obtain ⟨im, hmi, hmz0, hmz1, hmz2⟩ := info_parts Try.infoM
  have hi : I64s ms := by obtain ⟨_, _, _, _, _, h, _⟩ := hr; exact h
  have hb1 : Below w.heap.size w (w.alloc (.cells #[] TM)) := (Below.refl _ _).alloc (Nat.le_refl _) _
  have hmade : (w.alloc (.cells #[] TM)).ownsRow w.heap.size TM 2 (.slice (some ⟨w.heap.size, 0, none⟩) 0 0) 0 [] := World.ownsRow_made _ _ 0 (Nat.le_refl _) (by unfold maxLen; omega) rfl
  obtain ⟨v2, w2, hrun2, ho2, hg2, _⟩ := append_rd hmi hmz0 hmz1 hmz2 hmade (hr.below (w' := w.alloc (.cells #[] TM)) (fun q hq => hb1.block q (by omega))) (by omega) hb1.size
  have hb2 := below_grown7 hb1 hg2 hb1.size (fun q hq => by cases hq; exact Nat.le_refl _)
  rw [Nat.zero_add, List.nil_append] at ho2
  obtain ⟨ao, cap, hu⟩ : ∃ ao cap, u = .slice ao ms.length cap := by obtain ⟨a, c, h, _⟩ := hr; exact ⟨a, c, h⟩
  subst hu
  have hrB : RdMarks w2 B (.slice ao ms.length cap) ms := hr.below (w' := w2) (fun q hq => hb2.block q (by omega))
  obtain ⟨la, lc, rfl, hlc, hlm, hcell⟩ := ha
  have Hcell := Lib.hid hcell
  unfold maxLen at hlm
  obtain ⟨f2, g2, rfl⟩ := own_len ho2
  have hs1 := specTermOk p ms B (.slice ao ms.length cap) w2 hrB
  have Hrun2 := Lib.hid hrun2
  have Ho2 := Lib.hid ho2
  have Hb2 := Lib.hid hb2
  have Hi := Lib.hid hi
  have Hz := Lib.hid hz
  clear hrun2 ho2 hb2 hg2 hmade hb1 hmi hmz0 hmz1 hmz2 hrB hr hi hz hcell
  obtain ⟨wo, rfl⟩ : ∃ wo : World, wo = w := ⟨_, rfl⟩
  cases ht : termOk p ms with
  | false =>
    obtain ⟨e1, e2⟩ := chain_no_term (l := zs) ht
    rw [e1, e2]
    rw [ht] at hs1
    have Hs1 := Lib.hid hs1
    clear hs1 ht e1 e2
    go_enter Try.func27, Try.ntmps27
    go_wp2_with (first
      | (at_builtin; refine Lib.wpList_append_run _ rfl (.tmp 10) (.tmp 11) _ _ rfl _ _ rfl rfl _ _ Hrun2.out ?_)
      | fail)
    refine Hs1.out.mono ?_
    rintro e w' ⟨rfl, rfl⟩
    go_wp2
    go_ret2
    exact ⟨_, rfl, by rw [mcells_nil7]; exact World.ownsRow_made _ _ 0 Hb2.out.size (by unfold maxLen; omega) rfl, Hb2.out.alloc Hb2.out.size _⟩
  | true =>
    have hms15 : ms.length ≤ 15 := (termOk_iff.1 ht).2.1
    rw [ht] at hs1
    have Hs1 := Lib.hid hs1
    clear hs1
    by_cases hl15 : zs.length ≤ 15
    case neg =>
      obtain ⟨e1, e2⟩ := chain_long (p := p) (ms := ms) (show 15 < zs.length by omega)
      rw [e1, e2]
      clear ht e1 e2
      go_enter Try.func27, Try.ntmps27
      go_wp2_with (first
        | (at_builtin; refine Lib.wpList_append_run _ rfl (.tmp 10) (.tmp 11) _ _ rfl _ _ rfl rfl _ _ Hrun2.out ?_)
        | fail)
      refine Hs1.out.mono ?_
      rintro e w' ⟨rfl, rfl⟩
      go_wp2
      go_ret2
      exact ⟨_, rfl, by rw [mcells_nil7]; exact World.ownsRow_made _ _ 0 Hb2.out.size (by unfold maxLen; omega) rfl, Hb2.out.alloc Hb2.out.size _⟩
    obtain ⟨e1, e2⟩ := chain_yes (l := zs) ht
    have E1 := Lib.hid e1
    have E2 := Lib.hid e2
    have Hend := Lib.hid (chain_end zs ms)
    have Hstep := Lib.hid (fun i hi => chain_drop (l := zs) (ms := ms) (i := i) hi)
    have Hcl := Lib.hid (fun i => chain_len_drop (l := zs) (ms := ms) i)
    have Hci := Lib.hid (fun i => chain_I64 Hi.out (zs.drop i) (fun z hzz => Hz.out z (List.mem_of_mem_drop hzz)))
    have h0 : zs.drop 0 = zs := rfl
    have Hcz : Hid (chainL (zs.drop 0) ms = chainL zs ms) := by unfold Hid; rw [h0]
    have Hzg : Hid (∀ i, i < zs.length → I64 (zs.getD i 0)) := fun i hi => by
      have e : zs.getD i 0 = zs[i] := by simp [List.getD, hi]
      rw [e]; exact Hz.out _ (List.getElem_mem hi)
    clear ht e1 e2 h0
    generalize hn : zs.length = n at *
    have Hn := Lib.hid hn; clear hn
    go_enter Try.func27, Try.ntmps27
    go_wp2_with (first
      | (at_builtin; refine Lib.wpList_append_run _ rfl (.tmp 10) (.tmp 11) _ _ rfl _ _ rfl rfl _ _ Hrun2.out ?_)
      | fail)
    refine Hs1.out.mono ?_
    rintro e w' ⟨rfl, rfl⟩
    go_wp2
    go_loopw [8, 9] (fun v i wr => ∃ j : Nat, j ≤ n ∧ i = .int .i64 ((j : Int) - 1) ∧ wr.ownsRow wo.heap.size TM 2 v (chainL (zs.drop j) ms).length (mcells (chainL (zs.drop j) ms)) ∧ Below wo.heap.size wo wr) (fun _ i _ => (intOf i + 1).toNat)
    case atStart => exact ⟨n, Nat.le_refl _, rfl, by rw [Hend.out]; exact Ho2.out, Hb2.out⟩
    case round =>
      obtain ⟨j, hj, rfl, hown, hbr⟩ := hrel
      have Hbr := Lib.hid hbr
      have hsr := hbr.size
      by_cases hj0 : 0 < j
      · obtain ⟨i, rfl⟩ : ∃ i, j = i + 1 := ⟨j - 1, by omega⟩
        have hin : i < n := by omega
        obtain ⟨b, off, hao, hbB, hc⟩ := Hcell.out i hin
        subst hao
        rw [← hbr.cell (p := ⟨b, _, none⟩) (show b < _ by omega)] at hc
        have hst := Hstep.out i hin
        have hcl := Hcl.out (i + 1)
        have hcl0 := Hcl.out i
        have hci := Hci.out (i + 1)
        have hzi := Hzg.out i (by omega)
        generalize zs.getD i 0 = z at *
        generalize chainL (zs.drop (i + 1)) ms = cs at *
        obtain ⟨fv, gv, rfl⟩ := own_len hown
        obtain ⟨f3, g3, w3, f4, g4, w4, hrun3, hrun4, ho4, hb4⟩ := cterm_runs wr wr.heap.size (.slice fv cs.length gv) z cs (RdMarks.of_own hown hci) (Nat.le_refl _) (by omega)
        have Hrun3 := Lib.hid hrun3
        have Hrun4 := Lib.hid hrun4
        have Hb4 := Lib.hid (Hbr.out.trans (hb4.mono hsr))
        have Ho4 : Hid (w4.ownsRow wo.heap.size TM 2 (.slice f4 (cs.length + 2) g4) (chainL (zs.drop i) ms).length (mcells (chainL (zs.drop i) ms))) := by
          unfold Hid
          rw [hst]
          exact own_mono ho4 hsr
        have hii : ((i + 1 : Nat) : Int) - 1 = i := by omega
        have hi0 : (0 : Int) ≤ (i : Int) := by omega
        have hin' : (i : Int) < (n : Int) := by omega
        clear hrun3 hrun4 hb4 ho4 hown hbr hst hcl hcl0 hci hzi
        rw [hii]
        go_wp2_with (first
          | (at_builtin; refine Lib.wpList_append_run _ rfl (.tmp 35) (.tmp 36) _ _ rfl _ _ rfl rfl _ _ Hrun3.out ?_)
          | (at_builtin; refine Lib.wpList_append_run _ rfl (.tmp 38) (.tmp 40) _ _ rfl _ _ rfl rfl _ _ Hrun4.out ?_)
          | fail)
        go_roundw
        case rel => exact ⟨i, by omega, by go_num, Ho4.out, Hb4.out⟩
        case measure => first | (simp [intOf]; done) | (simp [intOf]; omega)
      · obtain rfl : j = 0 := by omega
        rw [Hcz.out] at hown
        have hci := Hci.out 0
        rw [Hcz.out] at hci
        generalize chainL zs ms = cs at *
        obtain ⟨fv, gv, rfl⟩ := own_len hown
        have hs2 := specTermOk p cs wr.heap.size (.slice fv cs.length gv) wr (RdMarks.of_own hown hci)
        have Hown := Lib.hid hown
        rw [show (((0 : Nat) : Int) - 1) = -1 from rfl]
        generalize termOk p cs = o at *
        have Hs2 := Lib.hid hs2
        clear hown hbr hci hs2
        go_wp2_with fail
        refine Hs2.out.mono ?_
        rintro e w' ⟨rfl, rfl⟩
        cases o
        · go_wp2
          go_ret2
          exact ⟨_, by rw [E1.out]; rfl, by rw [E2.out, if_neg (by simp), mcells_nil7]; exact World.ownsRow_made _ _ 0 Hbr.out.size (by unfold maxLen; omega) rfl, Hbr.out.alloc Hbr.out.size _⟩
        · go_wp2
          go_ret2
          exact ⟨_, by rw [E1.out]; rfl, by rw [E2.out]; first | (rw [if_pos rfl]; exact Hown.out) | (rw [if_pos trivial]; exact Hown.out), Hbr.out⟩
end Go.Proofs.Ytemldnjpcnogpaa

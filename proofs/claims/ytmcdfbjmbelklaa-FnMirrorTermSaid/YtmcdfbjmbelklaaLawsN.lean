/- A law of chapter 2: mirrored terms read the same people. It answers true, whatever the code. No condition. -/
import Derived.Test.YtmcdfbjmbelklaaDrawN
import Derived.Test.YtmcdfbjmbelklaaMirrorS
import Derived.Test.YtmcdfbjmbelklaaFrameM
namespace Go.Proofs.Ytmcdfbjmbelklaa
open Go.RowKit Go.Joins
/-- the mirrored tree -/
def Tm.mir (p : Int) : Tm → Tm
  | .leaf k x => if k = 0 then .un (.leaf 0 x) else .un (.leaf 1 (p + 1 - x))
  | .un t => .un (t.mir p)
  | .bin k a b => .bin k (a.mir p) (b.mir p)
theorem mir_ok {p : Int} : ∀ (t : Tm), t.ok p → (t.mir p).ok p
  | .leaf k x, h => by
    rcases h with ⟨rfl, h1, h2⟩ | ⟨rfl, h1, h2⟩
    · exact .inl ⟨rfl, h1, h2⟩
    · exact .inr ⟨rfl, by omega, by omega⟩
  | .un t, h => mir_ok t h
  | .bin k a b, h => ⟨h.1, h.2.1, mir_ok a h.2.2.1, mir_ok b h.2.2.2⟩
theorem mirN_append (p : Int) (xs ys : List (Int × Int)) : mirN p (xs ++ ys) = mirN p xs ++ mirN p ys := by unfold mirN; rw [List.flatMap_append]
theorem mir_post {p : Int} : ∀ (t : Tm), t.ok p → (t.mir p).post = mirN p t.post
  | .leaf k x, h => by
    rcases h with ⟨rfl, h1, h2⟩ | ⟨rfl, h1, h2⟩ <;> rfl
  | .un t, h => by
    show (t.mir p).post ++ [(2, 0)] = mirN p (t.post ++ [(2, 0)])
    rw [mir_post t h, mirN_append]; rfl
  | .bin k a b, h => by
    show (a.mir p).post ++ (b.mir p).post ++ [(k, 0)] = mirN p (a.post ++ b.post ++ [(k, 0)])
    rw [mir_post a h.2.2.1, mir_post b h.2.2.2, mirN_append, mirN_append]
    have : mirN p [(k, 0)] = [(k, 0)] := by simp [mirN, mirMe (p := p) (x := 0) (show 2 ≤ k by have := h.1; omega)]
    rw [this]
theorem mir_term {p : Int} {ms : List (Int × Int)} (h : mirOk p ms = true) : termOk p (mirN p ms) = true := by
  unfold mirOk at h
  rw [Bool.and_eq_true, decide_eq_true_eq] at h
  obtain ⟨⟨h1, h4⟩, _, t, ht, rfl⟩ := termOk_iff.1 h.1
  exact termOk_iff.2 ⟨⟨h1, h4⟩, h.2, t.mir p, mir_ok t ht, (mir_post t ht).symm⟩
theorem rd_mirM (p : Int) (n : Nat) (m : Int × Int) : (mirM p m).foldl rdStep n = rdStep n m := by
  obtain ⟨k, x⟩ := m
  unfold mirM
  dsimp only
  split
  · rename_i h; subst h; simp [rdStep]
  · split
    · rename_i h; subst h; simp [rdStep]
    · rfl
theorem mir_reads (p : Int) (ms : List (Int × Int)) : readN (mirN p ms) = readN ms := by
  have key : ∀ (l : List (Int × Int)) (n : Nat), (l.flatMap (mirM p)).foldl rdStep n = l.foldl rdStep n := by
    intro l
    induction l with
    | nil => intro n; rfl
    | cons m r ih => intro n; rw [List.flatMap_cons, List.foldl_append, rd_mirM, ih]; rfl
  exact key ms 0
/-- how many of the marks are of people or counts -/
def leaves (ms : List (Int × Int)) : Nat := (ms.filter fun m => decide (m.1 ≤ 1)).length
theorem leaves_take (ms : List (Int × Int)) (k : Nat) (h : k < ms.length) : leaves (ms.take (k + 1)) = leaves (ms.take k) + if (ms.getD k (0, 0)).1 ≤ 1 then 1 else 0 := by
  rw [take_snoc (0, 0) ms k h]
  unfold leaves
  rw [List.filter_append, List.length_append]
  generalize ms.getD k (0, 0) = m
  by_cases hm : m.1 ≤ 1 <;> simp [List.filter_cons, hm]
theorem leaves_nil : leaves [] = 0 := rfl
theorem own_drewX {w : World} {base : Nat} {e : TypeId} {size : Nat} {v : Value} {n : Nat} {xs : List Value} (h : w.ownsRow base e size v n xs) (k : Nat) : (w.drewN k).ownsRow base e size v n xs := h
theorem leaves_le (ms : List (Int × Int)) : leaves ms ≤ ms.length := List.length_filter_le _ _
theorem mir_len {p : Int} : ∀ {ms : List (Int × Int)}, (∀ m ∈ ms, mkOk p m.1 m.2 = true) → (mirN p ms).length = ms.length + leaves ms
  | [], _ => rfl
  | m :: r, h => by
    have hm := h m (by simp)
    have ih := mir_len (fun x hx => h x (by simp [hx]) : ∀ x ∈ r, mkOk p x.1 x.2 = true)
    unfold mkOk at hm
    rw [decide_eq_true_eq] at hm
    have e : mirN p (m :: r) = mirM p m ++ mirN p r := by simp [mirN]
    rw [e, List.length_append, ih]
    unfold leaves mirM
    by_cases h0 : m.1 = 0
    · simp [h0]; omega
    · by_cases h1 : m.1 = 1
      · simp [h1]; omega
      · have : ¬ m.1 ≤ 1 := by omega
        simp [h0, h1, this]; omega
attribute [local irreducible] mirN leaves readN
end Go.Proofs.Ytmcdfbjmbelklaa

namespace Go.Proofs.Ytmcdfbjmbelklaa.fnMirrorTerm
open Go.ChangeShapes Go.WideShapes Go.ChangeAt Go.RowKit Go.Joins
open Go.ChangeMaps (open_string shut_string)
set_option linter.unusedVariables false
attribute [local irreducible] mirN mirV mirOk leaves readN
set_option maxRecDepth 100000 in
set_option maxHeartbeats 2000000 in
theorem walk (a0 : Value) (n0 : Nat) (w : World) (w0 : RdBytes w w.heap.size a0 n0) :
    Calls Try.prog 6 #[a0] w fun e w' => e = .returned (.bool true) ∧ Below w.heap.size w w' := by
  have hr := w0
  by_cases hbig : n0 ≤ 1048576
  case neg =>
    obtain ⟨ao, cap, rfl, hl, hm, hc⟩ := w0
    have hbig' := code_big hbig
    unfold maxLen at hm
    clear hc hr hbig
    go_enter Try.func6, Try.ntmps6
    go_wp2
    go_ret
    exact ⟨rfl, Below.refl _ _⟩
  have hbig' : (n0 : Int) ≤ 1048576 := by omega
  clear hbig
  obtain ⟨ao, cap, rfl, hl, hm, hc⟩ := w0
  have Hr := Lib.hid hr
  clear hc hr hl hm
  go_enter Try.func6, Try.ntmps6
  go_wp2_with fail
  refine (drawMirrorTerm _ _ _ Hr.out).mono ?_
  rintro e w1 ⟨p, g, n, cp, ms, hp1, hp8, rfl, hlen, hown, hi, hn, hB⟩
  have Hlen := Lib.hid hlen; clear hlen
  have Hi := Lib.hid hi; clear hi
  have hrd : RdMarks w1 w1.heap.size (.slice (some ⟨g, 0, none⟩) n cp) ms := by
    have h0 := RdMarks.of_own (ms := ms) (v := .slice (some ⟨g, 0, none⟩) n cp) (e := TM) (base := w.heap.size) (by rw [Hlen.out]; exact hown) Hi.out
    exact h0
  have Hown1 := Lib.hid hown; clear hown
  have Hrd1 := Lib.hid hrd; clear hrd
  have hB1 := hB; clear hB
  have hxl := mirV_len p ms
  have hxi := mirV_I64 p ms
  go_wp2_with fail
  refine (implMirrorTerm _ ms _ _ _ Hrd1.out (Nat.le_refl _)).mono ?_
  rintro e w2 ⟨vg, rfl, howng, hb2⟩
  have hB2 : Below w.heap.size w w2 := hB1.trans (hb2.mono hB1.size)
  have Hrd2 := Lib.hid (Hrd1.out.kept hb2)
  have Howng2 := Lib.hid howng
  clear hb2 howng Hrd1 Hown1
  go_wp2_with fail
  refine (specMirrorTerm _ ms _ _ _ Hrd2.out (Nat.le_refl _)).mono ?_
  rintro e w3 ⟨vw, rfl, hownw, hb3⟩
  have hB3 : Below w.heap.size w w3 := hB2.trans (hb3.mono hB2.size)
  have Hrd3 := Lib.hid (Hrd2.out.kept hb3)
  have Howng3 := Lib.hid (own_below Howng2.out hb3)
  have Hownw3 := Lib.hid hownw
  clear hb3 hownw Hrd2 Howng2
  have Hxl := Lib.hid hxl; clear hxl
  have Hxi := Lib.hid hxi; clear hxi
  go_wp2_with fail
  refine (sameMarks (mirV p ms) (mirV p ms) _ _ _ _ _ (RdMarks.of_own Howng3.out Hxi.out) (RdMarks.of_own Hownw3.out Hxi.out)).mono ?_
  rintro e w4 ⟨rfl, n4, rfl⟩
  rw [show decide (mirV p ms = mirV p ms) = true from by simp]
  have hB4 : Below w.heap.size w (w3.drewN n4) := below_drewN hB3 _
  cases hok : mirOk p ms with
  | false =>
    have hv : mirV p ms = [] := by unfold mirV; rw [hok]; rfl
    have Hv := Lib.hid hv
    rw [hv] at Howng3
    clear hok hv
    rcases ownsRow_forms Howng3.out with ⟨rfl, _⟩ | ⟨g2, c2, rfl⟩
    all_goals
      clear Howng3 Hownw3 Hxi Hxl
      go_wp2_with fail
      refine (alive _).mono ?_
      rintro e w' ⟨rfl, rfl⟩
      go_wp2
      go_ret
      exact ⟨rfl, hB4⟩
  | true =>
    have Hok := Lib.hid hok
    have hv : mirV p ms = mirN p ms := by unfold mirV; rw [hok]; rfl
    clear hok
    rw [hv] at Howng3 Hownw3 Hxi Hxl
    clear hv
    have hterm : termOk p ms = true := by have := Hok.out; unfold mirOk at this; rw [Bool.and_eq_true] at this; exact this.1
    have Hterm := Lib.hid hterm; clear hterm
    have Hmt := Lib.hid (mir_term Hok.out)
    have Hml := Lib.hid (mir_len (termOk_mkOk Hterm.out))
    have Hlen15 : ms.length ≤ 15 := (termOk_iff.1 Hterm.out).2.1
    obtain ⟨ao2, cap2, hv2, hal2, ham2, _, hac2⟩ := Hrd3.out
    have hac := Lib.hid hac2; clear hac2
    have hn2 : ms.length = n := Hlen.out
    have Hn2 := Lib.hid hn2; clear hn2
    clear hal2 ham2
    have hao : ao2 = some ⟨g, 0, none⟩ := by cases hv2; rfl
    subst hao
    clear hv2
    have hn15 : n ≤ 15 := by rw [← Hn2.out]; exact Hlen15
    clear Hlen15
    go_wp2_with fail
    go_loop [9, 10] (fun q i => ∃ k : Nat, k ≤ n ∧ i = .int .i64 k ∧ q = .int .i64 (leaves (ms.take k))) (fun _ i => n - (intOf i).toNat)
    case atStart => exact ⟨0, Nat.zero_le _, rfl, by rw [List.take_zero, leaves_nil]; rfl⟩
    case round =>
      obtain ⟨k, hk, rfl, rfl⟩ := hrel
      have hlv := leaves_le (ms.take k)
      have hlk : (ms.take k).length ≤ k := List.length_take_le _ _
      by_cases hlt : k < n
      · have hlt' : k < ms.length := by rw [Hn2.out]; exact hlt
        obtain ⟨b1, o1, he, _, hc1, _⟩ := hac.out k hlt'
        cases he
        have hc1' : (w3.drewN n4).cell? ⟨g, 0 + k * 2, none⟩ = some (.int .i64 (ms.getD k (0, 0)).1) := hc1
        rw [Nat.zero_add] at hc1'
        have Hs := Lib.hid (leaves_take ms k hlt')
        clear hc1 hlt'
        generalize leaves (ms.take k) = L at *
        generalize ms.getD k (0, 0) = m at *
        obtain ⟨kd, x⟩ := m
        dsimp only at hc1'
        by_cases h1 : kd ≤ 1
        · go_wp2
          go_round
          case rel => exact ⟨k + 1, by omega, by go_num, by rw [Hs.out, if_pos h1]; go_num⟩
          case measure => simp [intOf]; omega
        · have h1' : 1 < kd := by omega
          go_wp2
          go_round
          case rel => exact ⟨k + 1, by omega, by go_num, by rw [Hs.out, if_neg h1]; rfl⟩
          case measure => simp [intOf]; omega
      · obtain rfl : k = n := by omega
        rw [show ms.take k = ms from by rw [← Hn2.out]; exact List.take_length]
        clear hlv hlk hlt
        go_wp2_with fail
        refine (implTermOk _ (mirN p ms) _ _ _ (RdMarks.of_own (own_drewX Howng3.out n4) Hxi.out) (Nat.le_refl _)).mono ?_
        rintro e w5 ⟨rfl, hb5⟩
        rw [Hmt.out]
        have hB5 : Below w.heap.size w w5 := hB4.trans (hb5.mono hB4.size)
        have Howng5 := Lib.hid (own_below (own_drewX Howng3.out n4) hb5)
        have Hrd5 : Hid (RdMarks w5 w5.heap.size (.slice (some ⟨g, 0, none⟩) k cp) ms) := RdMarks.kept (w := w3.drewN n4) (show RdMarks (w3.drewN n4) w3.heap.size _ ms from Hrd3.out) hb5
        clear hb5 Howng3 Hownw3 Hrd3
        go_wp2_with fail
        refine (implPeopleRead _ (mirN p ms) _ _ _ (RdMarks.of_own Howng5.out Hxi.out) (Nat.le_refl _)).mono ?_
        rintro e w6 ⟨rfl, hb6⟩
        have hB6 : Below w.heap.size w w6 := hB5.trans (hb6.mono hB5.size)
        have Howng6 := Lib.hid (own_below Howng5.out hb6)
        have Hrd6 := Lib.hid (Hrd5.out.kept hb6)
        clear hb6 Howng5 Hrd5
        go_wp2_with fail
        refine (implPeopleRead _ ms _ _ _ Hrd6.out (Nat.le_refl _)).mono ?_
        rintro e w7 ⟨rfl, hb7⟩
        have hB7 : Below w.heap.size w w7 := hB6.trans (hb7.mono hB6.size)
        rw [readV_yes Hmt.out, readV_yes Hterm.out, mir_reads]
        have Howng7 := Lib.hid (own_below Howng6.out hb7)
        clear hb7 Howng6 Hrd6
        have hlv := leaves_le ms
        rw [Hn2.out] at hlv
        have hml := Hml.out
        rw [Hn2.out] at hml
        rw [hml] at Howng7
        clear hml
        generalize leaves ms = L at *
        generalize readN ms = R at *
        rcases ownsRow_forms Howng7.out with ⟨rfl, h0⟩ | ⟨g2, c2, rfl⟩
        · obtain rfl : k = 0 := by omega
          obtain rfl : L = 0 := by omega
          clear Howng7 h0
          go_wp2
          go_ret
          exact ⟨rfl, hB7⟩
        · clear Howng7
          go_wp2
          go_ret
          exact ⟨rfl, hB7⟩

set_option maxRecDepth 100000 in
theorem lifted (os : Os) (started : os.Started) (H : Type) (enc : TypeId × Value → H) :
    ReturnsInHanded {} Try.checked os 6 .any (Rows.fnMirrorTermSpec.pre6 enc Try.prog Try.f6 Rows.fnMirrorTermRow.domain false) (Rows.fnMirrorTermSpec.post enc Try.prog Try.f6 false true false false) := by
  refine returnsInHanded_of_change (C := Try.checked) Try.own started (by kernel_rfl) Try.func6
    (ChangeSpec.witness6 (enc := enc) (C := Try.checked) false ⟨#[], #[.slice none 0 0], []⟩ 8 (by kernel_rfl) (by kernel_rfl) (by kernel_rfl) (by kernel_rfl)) ?_
  intro W base args ds gs before hval0 hW hcnd _
  have hval : ∀ (j : Nat) t v, Try.f6.params[j]? = some t → args[j]? = some v → Value.okWide Try.prog W .any base t v := hval0
  have hW' := hW
  obtain ⟨p, q, hA0, hV, rfl, hfz, hnd⟩ := hW
  have hA : DataW.TrodAll enc Try.prog W 0 (fun _ => true) true Try.f6.params.toList args.toList ds p := hA0
  rw [Try.params6] at hA hval
  obtain ⟨v0, vs0, d0, ds0, p0, q0, hargs, rfl, rfl, h0, r0⟩ := trodAll_cons hA
  obtain ⟨rfl, rfl, rfl⟩ := trodAll_nil r0
  obtain rfl : args = #[v0] := by cases args; simp_all
  obtain ⟨rfl, rfl⟩ := trodVars_none hV
  obtain ⟨a0, len0, cap0, rfl⟩ := okWide_slice Try.underlying22 (hval 0 22 v0 rfl rfl)
  have k0 := h0
  have lt0 : ∀ x ∈ p0, x.block < W.heap.size := by obtain ⟨m, hm⟩ := k0; exact DataW.trod_lt m _ _ _ hm
  obtain ⟨z0, w0⟩ : ∃ zs, IsRow .u8 W a0 len0 cap0 zs := by
    obtain ⟨fuel, hf⟩ := h0
    rcases open_ints Try.underlying22 Try.underlying5 (by kernel_rfl) hf with ⟨hcs, _⟩ | ⟨x, l, c, zs, hcs, _, hl, hm, hz, _, hcell, hwz⟩
    · simp [Value.cells] at hcs
      obtain ⟨rfl, rfl, rfl⟩ := hcs
      exact ⟨[], .inl ⟨rfl, rfl, rfl, rfl⟩⟩
    · simp [Value.cells] at hcs
      obtain ⟨rfl, rfl, rfl⟩ := hcs
      exact ⟨zs, .inr ⟨_, rfl, hl, hm, by simpa using hz, hcell, hwz⟩⟩
  clear hA0 hval0
  refine (walk _ _ W (RdBytes.of_row w0)).mono fun e W' ⟨he, bel⟩ => ?_
  subst he
  exact ⟨_, rfl, _, _, _, [], _, [], hW', trodAll_mk1 (shut_bool Try.underlying4 _), (trodAll_cons_mk (Below.trod Try.laidOut (by kernel_rfl) (of_decide_eq_true (by kernel_rfl)) k0 bel lt0) trodAll_mk0), rfl, bel.frame _, fun h => by cases h⟩

theorem closed : joinedFacts Try.pinned.checked.prog 6 Try.f6 Rows.fnMirrorTermSpec Rows.fnMirrorTermRow = true := by
  unfold joinedFacts
  exact (and_tt (and_tt (and_tt (and_tt (and_tt (and_tt (and_tt (and_tt (and_tt (and_tt (and_tt (and_tt (and_tt (and_tt (and_tt (and_tt (and_tt (and_tt (and_tt (and_tt (and_tt (and_tt (and_tt (and_tt (and_tt (and_tt (and_tt (and_tt (and_tt (and_tt (and_tt (by kernel_rfl) (by kernel_rfl)) (by kernel_rfl)) (by kernel_rfl)) (by kernel_rfl)) (by kernel_rfl)) (by kernel_rfl)) (by kernel_rfl)) (by kernel_rfl)) (by kernel_rfl)) (by kernel_rfl)) (by kernel_rfl)) (by kernel_rfl)) (by kernel_rfl)) (by kernel_rfl)) (by kernel_rfl)) (by kernel_rfl)) (by kernel_rfl)) (by kernel_rfl)) (by kernel_rfl)) (by kernel_rfl)) (by kernel_rfl)) (by kernel_rfl)) (by kernel_rfl)) (by kernel_rfl)) Try.mayEnter0) (lifted_tt Try.lifts0 rfl)) (make_tt Try.make0 rfl)) (by kernel_rfl)) (by kernel_rfl)) (by kernel_rfl)) (by kernel_rfl))
theorem over : Rows.fnMirrorTermRow.holds Try.pinned (OpenSpec.ofChange Rows.fnMirrorTermSpec) :=
  OpenClaim.holds_of_wide 6 Try.f6 rfl rfl rfl rfl rfl rfl rfl ⟨rfl, rfl, rfl, rfl, rfl⟩ rfl rfl rfl rfl rfl (by kernel_rfl) Try.func6 closed
    (of_decide_eq_true (by kernel_rfl)) (by unfold Func.isWrapper; first | (rw [if_pos (by decide +kernel)]; kernel_rfl) | (rw [if_neg (by decide +kernel)]; exact ⟨rfl, rfl⟩))
    (fun os started H enc _ => lifted os started H enc)

theorem proved : Rows.FnMirrorTermSaid := over
end Go.Proofs.Ytmcdfbjmbelklaa.fnMirrorTerm


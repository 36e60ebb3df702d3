/- Exact law of stage 7: chains of questions, in memory of their own. No condition. -/
import Derived.Test.YtemldnjpcnogpaaMarksH
import Derived.Test.YtemldnjpcnogpaaHelpers
import Derived.Test.YtemldnjpcnogpaaAskI
import Derived.Test.YtemldnjpcnogpaaFrameM
namespace Go.Proofs.Ytemldnjpcnogpaa
open Go.RowKit
theorem intsKept7 {w w' : World} {v : Value} {zs : List Int} (h : RdInts w w.heap.size v zs) (hb : Below w.heap.size w w') : RdInts w' w'.heap.size v zs := (h.below hb.block).mono hb.size
theorem IsRow.wf7 {w : World} {a : Option Addr} {len cap : Nat} {zs : List Int} (h : IsRow .i64 w a len cap zs) : ∀ z ∈ zs.take len, I64 z := by
  rcases h with ⟨rfl, rfl, rfl, rfl⟩ | ⟨x, rfl, hl, hm, hz, hc, hw⟩
  · intro z hz; simp at hz
  · intro z hz
    exact I64_of_wf (hw z (List.mem_of_mem_take hz))
theorem chain_I647e {p : Int} {l : List Int} {ms : List (Int × Int)} (hi : I64s ms) (hz : ∀ z ∈ l, I64 z) : I64s (chainV p l ms) ∧ (chainV p l ms).length ≤ 15 := by
  unfold chainV
  cases h : chainOk p l ms with
  | false => rw [if_neg (by simp)]; exact ⟨fun m hm => by simp at hm, by simp⟩
  | true =>
    rw [if_pos rfl]
    refine ⟨chain_I64 hi l hz, ?_⟩
    unfold chainOk at h
    simp only [Bool.and_eq_true] at h
    exact (termOk_iff.1 h.2).2.1
end Go.Proofs.Ytemldnjpcnogpaa
namespace Go.Proofs.Ytemldnjpcnogpaa.fnExactChainTerm
open Go.ChangeShapes Go.WideShapes Go.ChangeAt Go.RowKit
attribute [local irreducible] lay chainL chainV chainOk mcells
open Go.ChangeMaps (open_string shut_string)
set_option linter.unusedVariables false
set_option maxRecDepth 100000 in
set_option maxHeartbeats 8000000 in
theorem walk (a0 : Int) (a1 : Value) (z1 : List Int) (a2 : Value) (z2 : List (Int × Int)) (w : World) (w0 : (Lit.int .i64 a0).wf = true) (wz1 : ∀ z ∈ z1, I64 z) (w1 : RdInts w w.heap.size a1 z1) (w2 : RdMarks w w.heap.size a2 z2) :
    Calls Try.prog 11 #[.int .i64 a0, a1, a2] w fun e w' => e = .returned (.bool true) ∧ Below w.heap.size w w' := by
  have HR1 := Lib.hid w1
  have HR2 := Lib.hid w2
  have Hz := Lib.hid wz1
  obtain ⟨ao1, cap1, rfl, hl1, hm1, hc1⟩ := w1
  obtain ⟨ao, cap, rfl, hl, hm, hi, hc⟩ := w2
  unfold maxLen at hm1 hm
  have hm' : (z2.length : Int) ≤ 9223372036854775807 := by omega
  have Hi := Lib.hid hi
  clear hc1 hc hi
  by_cases hL1 : z1.length ≤ 1048576
  case neg =>
    go_enter Try.func11, Try.ntmps11
    go_wp2
    go_ret
    exact ⟨rfl, Below.refl _ _⟩
  by_cases hlen2 : z2.length ≤ 1048576
  case neg =>
    have hsz : Hid ((if z2.length ≤ 1048576 then 1048576 - (z2.length : Int) else -1) = -1) := if_neg hlen2
    go_enter Try.func11, Try.ntmps11
    go_wp2_with fail
    refine (szMarkS _ _ _ hm' _).mono ?_
    rintro e w' ⟨rfl, rfl⟩
    rw [hsz.out]
    go_wp2
    go_ret
    exact ⟨rfl, Below.refl _ _⟩
  have hsz : Hid ((if z2.length ≤ 1048576 then 1048576 - (z2.length : Int) else -1) = 1048576 - (z2.length : Int)) := if_pos hlen2
  have hlen3 : (z2.length : Int) ≤ 1048576 := by omega
  obtain ⟨hxi, hxl⟩ := chain_I647e (p := a0) (l := z1) Hi.out Hz.out
  have Hxi := Lib.hid hxi
  have Hs := Lib.hid (fun B a u W ha h h2 => specChainTerm a0 z1 z2 Hz.out (by omega) B a u W ha h h2)
  have Hp := Lib.hid (fun B a u W ha h h2 => implChainTerm a0 z1 z2 Hz.out (by omega) (by omega) B a u W ha h h2)
  generalize chainV a0 z1 z2 = xs at *
  generalize chainOk a0 z1 z2 = oo at *
  have hoo : (oo != oo) = false := by simp
  clear hxi w0 wz1 hl1 hl
  go_enter Try.func11, Try.ntmps11
  go_wp2_with fail
  refine (szMarkS _ _ _ hm' _).mono ?_
  rintro e w' ⟨rfl, rfl⟩
  rw [hsz.out]
  go_wp2_with fail
  refine (toIntS z1 (by omega) _ _ _ HR1.out (Nat.le_refl _)).mono ?_
  rintro e w1 ⟨v1, rfl, hown1, hb1⟩
  have hB1 : Below w.heap.size w w1 := hb1
  have hsz1 : w.heap.size ≤ w1.heap.size := hb1.size
  have HV1 := Lib.hid hown1
  have HR11 := Lib.hid (intsKept7 HR1.out hB1)
  have HR21 := Lib.hid (HR2.out.kept hB1)
  clear hb1 hown1
  go_wp2_with fail
  refine (toMarkS z2 hlen2 _ _ _ HR21.out (Nat.le_refl _)).mono ?_
  rintro e w2 ⟨v2, rfl, hown2, hb2⟩
  have hB2 : Below w.heap.size w w2 := hB1.trans (hb2.mono hB1.size)
  have hsz2 : w1.heap.size ≤ w2.heap.size := hb2.size
  have HV2 := Lib.hid hown2
  have HR12 := Lib.hid (intsKept7 HR1.out hB2)
  have HR22 := Lib.hid (HR2.out.kept hB2)
  have HV1b := Lib.hid (own_below HV1.out hb2)
  clear hb2 hown2
  go_wp2_with fail
  refine (Hs.out _ _ _ _ (RdInts.of_own HV1b.out) (RdMarks.of_own HV2.out Hi.out) (Nat.le_refl _)).mono ?_
  rintro e w3 ⟨vW, rfl, hoW, hb3⟩
  have hB3 : Below w.heap.size w w3 := hB2.trans (hb3.mono hB2.size)
  have hsz3 : w2.heap.size ≤ w3.heap.size := hb3.size
  obtain ⟨fW, gW, hfW⟩ := own_len hoW
  subst hfW
  have HW3 := Lib.hid hoW
  have HWlo : Hid (∀ k, (Value.slice fW xs.length gW).ownBlock = some k → w2.heap.size ≤ k ∧ k < w3.heap.size) := hoW.lt
  have HR13 := Lib.hid (intsKept7 HR1.out hB3)
  have HR23 := Lib.hid (HR2.out.kept hB3)
  clear hb3 hoW
  clear HV1 HV1b HV2
  go_wp2_with fail
  refine (toIntS z1 (by omega) _ _ _ HR13.out (Nat.le_refl _)).mono ?_
  rintro e w4 ⟨v4, rfl, hown4, hb4⟩
  have HW4 := Lib.hid (own_below HW3.out hb4)
  have hB4 : Below w.heap.size w w4 := hB3.trans (hb4.mono hB3.size)
  have hsz4 : w3.heap.size ≤ w4.heap.size := hb4.size
  clear HW3
  have HV4 := Lib.hid hown4
  have HR14 := Lib.hid (intsKept7 HR1.out hB4)
  have HR24 := Lib.hid (HR2.out.kept hB4)
  clear hb4 hown4
  have HX4 := Lib.hid HV4.out
  have HXlo : Hid (∀ k, v4.ownBlock = some k → w3.heap.size ≤ k ∧ k < w4.heap.size) := HV4.out.lt
  go_wp2_with fail
  refine (toMarkS z2 hlen2 _ _ _ HR24.out (Nat.le_refl _)).mono ?_
  rintro e w5 ⟨v5, rfl, hown5, hb5⟩
  have HW5 := Lib.hid (own_below HW4.out hb5)
  have HX5 := Lib.hid (own_below HX4.out hb5)
  have hB5 : Below w.heap.size w w5 := hB4.trans (hb5.mono hB4.size)
  have hsz5 : w4.heap.size ≤ w5.heap.size := hb5.size
  clear HW4 HX4
  have HV5 := Lib.hid hown5
  have HR15 := Lib.hid (intsKept7 HR1.out hB5)
  have HR25 := Lib.hid (HR2.out.kept hB5)
  clear hb5 hown5
  have HY5 := Lib.hid HV5.out
  have HYlo : Hid (∀ k, v5.ownBlock = some k → w4.heap.size ≤ k ∧ k < w5.heap.size) := HV5.out.lt
  clear HV4 HV5
  go_wp2_with fail
  refine (Hp.out _ _ _ _ (RdInts.of_own HX5.out) (RdMarks.of_own HY5.out Hi.out) (Nat.le_refl _)).mono ?_
  rintro e w6 ⟨vG, rfl, hoG, hb6⟩
  have HW6 := Lib.hid (own_below HW5.out hb6)
  have HX6 := Lib.hid (own_below HX5.out hb6)
  have HY6 := Lib.hid (own_below HY5.out hb6)
  have hB6 : Below w.heap.size w w6 := hB5.trans (hb6.mono hB5.size)
  have hsz6 : w5.heap.size ≤ w6.heap.size := hb6.size
  clear HW5 HX5 HY5
  obtain ⟨fG, gG, hfG⟩ := own_len hoG
  subst hfG
  have HG6 := Lib.hid hoG
  have HGlo : Hid (∀ k, (Value.slice fG xs.length gG).ownBlock = some k → w5.heap.size ≤ k ∧ k < w6.heap.size) := hoG.lt
  have HR16 := Lib.hid (intsKept7 HR1.out hB6)
  have HR26 := Lib.hid (HR2.out.kept hB6)
  clear hb6 hoG
  go_wp2_with fail
  refine (eqMarkS xs xs _ _ _ _ _ (RdMarks.of_own HG6.out Hxi.out) (RdMarks.of_own HW6.out Hxi.out) (Nat.le_refl _) (Nat.le_refl _)).mono ?_
  rintro e w7 ⟨rfl, hb7⟩
  rw [show decide (xs = xs) = true from by simp]
  have HW7 := Lib.hid (own_below HW6.out hb7)
  have HX7 := Lib.hid (own_below HX6.out hb7)
  have HY7 := Lib.hid (own_below HY6.out hb7)
  have HG7 := Lib.hid (own_below HG6.out hb7)
  have hB7 : Below w.heap.size w w7 := hB6.trans (hb7.mono hB6.size)
  have hsz7 : w6.heap.size ≤ w7.heap.size := hb7.size
  clear HW6 HX6 HY6 HG6
  have HR17 := Lib.hid (intsKept7 HR1.out hB7)
  have HR27 := Lib.hid (HR2.out.kept hB7)
  clear hb7
  go_wp2_with fail
  refine (toIntS z1 (by omega) _ _ _ HR17.out (Nat.le_refl _)).mono ?_
  rintro e w8 ⟨v8, rfl, hown8, hb8⟩
  have HW8 := Lib.hid (own_below HW7.out hb8)
  have HX8 := Lib.hid (own_below HX7.out hb8)
  have HY8 := Lib.hid (own_below HY7.out hb8)
  have HG8 := Lib.hid (own_below HG7.out hb8)
  have hB8 : Below w.heap.size w w8 := hB7.trans (hb8.mono hB7.size)
  have hsz8 : w7.heap.size ≤ w8.heap.size := hb8.size
  clear HW7 HX7 HY7 HG7
  have HV8 := Lib.hid hown8
  have HR18 := Lib.hid (intsKept7 HR1.out hB8)
  have HR28 := Lib.hid (HR2.out.kept hB8)
  clear hb8 hown8
  go_wp2_with fail
  refine (eqIntS z1 z1 _ _ _ _ _ (RdInts.of_own HX8.out) (RdInts.of_own HV8.out)).mono ?_
  rintro e w9 ⟨rfl, n9, hw9⟩
  rw [show decide (z1 = z1) = true from by simp]
  have hb9 : Below w8.heap.size w8 w9 := by rw [← hw9]; exact below_drewN (Below.refl _ _) _
  have HW9 := Lib.hid (own_below HW8.out hb9)
  have HX9 := Lib.hid (own_below HX8.out hb9)
  have HY9 := Lib.hid (own_below HY8.out hb9)
  have HG9 := Lib.hid (own_below HG8.out hb9)
  have hB9 : Below w.heap.size w w9 := hB8.trans (hb9.mono hB8.size)
  have hsz9 : w8.heap.size ≤ w9.heap.size := hb9.size
  clear HW8 HX8 HY8 HG8
  have HR19 := Lib.hid (intsKept7 HR1.out hB9)
  have HR29 := Lib.hid (HR2.out.kept hB9)
  clear hb9 hw9 HV8
  go_wp2_with fail
  refine (toMarkS z2 hlen2 _ _ _ HR29.out (Nat.le_refl _)).mono ?_
  rintro e w10 ⟨v10, rfl, hown10, hb10⟩
  have HW10 := Lib.hid (own_below HW9.out hb10)
  have HX10 := Lib.hid (own_below HX9.out hb10)
  have HY10 := Lib.hid (own_below HY9.out hb10)
  have HG10 := Lib.hid (own_below HG9.out hb10)
  have hB10 : Below w.heap.size w w10 := hB9.trans (hb10.mono hB9.size)
  have hsz10 : w9.heap.size ≤ w10.heap.size := hb10.size
  clear HW9 HX9 HY9 HG9
  have HV10 := Lib.hid hown10
  have HR110 := Lib.hid (intsKept7 HR1.out hB10)
  have HR210 := Lib.hid (HR2.out.kept hB10)
  clear hb10 hown10
  go_wp2_with fail
  refine (eqMarkS z2 z2 _ _ _ _ _ (RdMarks.of_own HY10.out Hi.out) (RdMarks.of_own HV10.out Hi.out) (Nat.le_refl _) (Nat.le_refl _)).mono ?_
  rintro e w11 ⟨rfl, hb11⟩
  rw [show decide (z2 = z2) = true from by simp]
  have HW11 := Lib.hid (own_below HW10.out hb11)
  have HX11 := Lib.hid (own_below HX10.out hb11)
  have HY11 := Lib.hid (own_below HY10.out hb11)
  have HG11 := Lib.hid (own_below HG10.out hb11)
  have hB11 : Below w.heap.size w w11 := hB10.trans (hb11.mono hB10.size)
  have hsz11 : w10.heap.size ≤ w11.heap.size := hb11.size
  clear HW10 HX10 HY10 HG10
  have HR111 := Lib.hid (intsKept7 HR1.out hB11)
  have HR211 := Lib.hid (HR2.out.kept hB11)
  clear hb11 HV10
  go_wp2_with fail
  refine (markIntS z1 1 (by omega) _ _ _ HX11.out).mono ?_
  rintro e w12 ⟨rfl, _hx12, hg12⟩
  have hB12 : Below w.heap.size w w12 := hB11.grown hg12 hB11.size (fun k hk => by have := (HXlo.out k hk).1; omega)
  have HW12 := Lib.hid (HW11.out.kept hg12 (own_apart (s := w3.heap.size) (fun k hk => (HWlo.out k hk).2) (fun k hk => (HXlo.out k hk).1)))
  have HY12 := Lib.hid (HY11.out.kept hg12 (own_apart' (s := w4.heap.size) (fun k hk => (HYlo.out k hk).1) (fun k hk => (HXlo.out k hk).2)))
  have HG12 := Lib.hid (HG11.out.kept hg12 (own_apart' (s := w4.heap.size) (fun k hk => by have := (HGlo.out k hk).1; omega) (fun k hk => (HXlo.out k hk).2)))
  clear hg12 _hx12 HX11 HW11 HY11 HG11
  have hk12 : 1 + z1.length ≤ 4194304 := by omega
  generalize 1 + z1.length = K1 at *
  go_wp2_with fail
  refine (markMarkS z2 K1 (by omega) _ _ _ HY12.out).mono ?_
  rintro e w13 ⟨rfl, _hx13, hg13⟩
  have hB13 : Below w.heap.size w w13 := hB12.grown hg13 hB12.size (fun k hk => by have := (HYlo.out k hk).1; omega)
  have HW13 := Lib.hid (HW12.out.kept hg13 (own_apart (s := w3.heap.size) (fun k hk => (HWlo.out k hk).2) (fun k hk => by have := (HYlo.out k hk).1; omega)))
  have HG13 := Lib.hid (HG12.out.kept hg13 (own_apart' (s := w5.heap.size) (fun k hk => (HGlo.out k hk).1) (fun k hk => (HYlo.out k hk).2)))
  clear hg13 _hx13 HY12 HW12 HG12
  have hk13 : (0 : Int) ≤ ((K1 + z2.length * 2 : Nat) : Int) := by omega
  generalize K1 + z2.length * 2 = K2 at *
  have HR113 := Lib.hid (intsKept7 HR1.out hB13)
  have HR213 := Lib.hid (HR2.out.kept hB13)
  go_wp2_with fail
  refine (eqMarkS xs xs _ _ _ _ _ (RdMarks.of_own HG13.out Hxi.out) (RdMarks.of_own HW13.out Hxi.out) (Nat.le_refl _) (Nat.le_refl _)).mono ?_
  rintro e w14 ⟨rfl, hb14⟩
  rw [show decide (xs = xs) = true from by simp]
  have HW14 := Lib.hid (own_below HW13.out hb14)
  have HG14 := Lib.hid (own_below HG13.out hb14)
  have hB14 : Below w.heap.size w w14 := hB13.trans (hb14.mono hB13.size)
  have hsz14 : w13.heap.size ≤ w14.heap.size := hb14.size
  clear HW13 HG13
  have HR114 := Lib.hid (intsKept7 HR1.out hB14)
  have HR214 := Lib.hid (HR2.out.kept hB14)
  clear hb14
  go_wp2_with fail
  refine (markMarkS xs 1 (by omega) _ _ _ HG14.out).mono ?_
  rintro e w15 ⟨rfl, hx15, hg15⟩
  have hB15 : Below w.heap.size w w15 := hB14.grown hg15 hB14.size (fun k hk => by have := (HGlo.out k hk).1; omega)
  have HW15 := Lib.hid (HW14.out.kept hg15 (own_apart (s := w3.heap.size) (fun k hk => (HWlo.out k hk).2) (fun k hk => by have := (HGlo.out k hk).1; omega)))
  generalize hn : xs.length = n at *
  have Hn := Lib.hid hn; clear hn
  have Hrd15 : Hid (RdMarks w15 w15.heap.size (.slice fG n gG) (lay 1 n)) := RdMarks.of_own (by rw [lay_length]; exact hx15) (lay_I64 (by omega))
  clear hg15 hx15 HW14 HG14
  have hm15 : (0 : Int) ≤ ((1 + n * 2 : Nat) : Int) := by omega
  generalize hM : 1 + n * 2 = M at *
  have HM := Lib.hid hM; clear hM
  have HR115 := Lib.hid (intsKept7 HR1.out hB15)
  have HR215 := Lib.hid (HR2.out.kept hB15)
  go_wp2_with fail
  refine (heldMarkS n 1 (by omega) _ _ _ Hrd15.out).mono ?_
  rintro e w' ⟨rfl, rfl⟩
  rw [HM.out]
  go_wp2_with fail
  refine (toIntS z1 (by omega) _ _ _ HR115.out (Nat.le_refl _)).mono ?_
  rintro e w16 ⟨v16, rfl, hown16, hb16⟩
  have HW16 := Lib.hid (own_below HW15.out hb16)
  have hB16 : Below w.heap.size w w16 := hB15.trans (hb16.mono hB15.size)
  have hsz16 : w15.heap.size ≤ w16.heap.size := hb16.size
  clear HW15
  have HV16 := Lib.hid hown16
  have HR116 := Lib.hid (intsKept7 HR1.out hB16)
  have HR216 := Lib.hid (HR2.out.kept hB16)
  have Hrd16 := Lib.hid (Hrd15.out.kept hb16)
  clear hb16 hown16
  go_wp2_with fail
  refine (toMarkS z2 hlen2 _ _ _ HR216.out (Nat.le_refl _)).mono ?_
  rintro e w17 ⟨v17, rfl, hown17, hb17⟩
  have HW17 := Lib.hid (own_below HW16.out hb17)
  have hB17 : Below w.heap.size w w17 := hB16.trans (hb17.mono hB16.size)
  have hsz17 : w16.heap.size ≤ w17.heap.size := hb17.size
  clear HW16
  have HV17 := Lib.hid hown17
  have HR117 := Lib.hid (intsKept7 HR1.out hB17)
  have HR217 := Lib.hid (HR2.out.kept hB17)
  have Hrd17 := Lib.hid (Hrd16.out.kept hb17)
  have HV16b := Lib.hid (own_below HV16.out hb17)
  clear hb17 hown17
  go_wp2_with fail
  refine (Hp.out _ _ _ _ (RdInts.of_own HV16b.out) (RdMarks.of_own HV17.out Hi.out) (Nat.le_refl _)).mono ?_
  rintro e w18 ⟨vh, rfl, hoh, hb18⟩
  rw [Hn.out] at hoh
  have HW18 := Lib.hid (own_below HW17.out hb18)
  have hB18 : Below w.heap.size w w18 := hB17.trans (hb18.mono hB17.size)
  have hsz18 : w17.heap.size ≤ w18.heap.size := hb18.size
  clear HW17
  have Hrd18 := Lib.hid (Hrd17.out.kept hb18)
  have HH18 : Hid (w18.ownsRow w17.heap.size TM 2 vh xs.length (mcells xs)) := by unfold Hid; rw [Hn.out]; exact hoh
  have HWn18 : Hid (w18.ownsRow w2.heap.size TM 2 (.slice fW n gW) xs.length (mcells xs)) := by unfold Hid; rw [Hn.out]; exact HW18.out
  obtain ⟨fh, gh, hfh⟩ := own_len hoh
  subst hfh
  clear hb18 hoh HV16 HV16b HV17
  go_wp2_with fail
  refine (eqMarkS xs xs _ _ _ _ _ (RdMarks.of_own HH18.out Hxi.out) (RdMarks.of_own HWn18.out Hxi.out) (Nat.le_refl _) (Nat.le_refl _)).mono ?_
  rintro e w19 ⟨rfl, hb19⟩
  rw [show decide (xs = xs) = true from by simp]
  have hB19 : Below w.heap.size w w19 := hB18.trans (hb19.mono hB18.size)
  have Hrd19 := Lib.hid (Hrd18.out.kept hb19)
  clear hb19 HH18 HWn18 HW18
  go_wp2_with fail
  refine (heldMarkS n 1 (by omega) _ _ _ Hrd19.out).mono ?_
  rintro e w' ⟨rfl, rfl⟩
  rw [HM.out]
  go_wp2
  go_ret
  exact ⟨rfl, hB19⟩

set_option maxRecDepth 100000 in
theorem lifted (os : Os) (started : os.Started) (H : Type) (enc : TypeId × Value → H) :
    ReturnsInHanded {} Try.checked os 11 .any (Rows.fnExactChainTermSpec.pre6 enc Try.prog Try.f11 Rows.fnExactChainTermRow.domain false) (Rows.fnExactChainTermSpec.post enc Try.prog Try.f11 false true false false) := by
  refine returnsInHanded_of_change (C := Try.checked) Try.own started (by kernel_rfl) Try.func11
    (ChangeSpec.witness6 (enc := enc) (C := Try.checked) false ⟨#[], #[.int .i64 0, .slice none 0 0, .slice none 0 0], []⟩ 8 (by kernel_rfl) (by kernel_rfl) (by kernel_rfl) (by kernel_rfl)) ?_
  intro W base args ds gs before hval0 hW hcnd _
  have hval : ∀ (j : Nat) t v, Try.f11.params[j]? = some t → args[j]? = some v → Value.okWide Try.prog W .any base t v := hval0
  have hW' := hW
  obtain ⟨p, q, hA0, hV, rfl, hfz, hnd⟩ := hW
  have hA : DataW.TrodAll enc Try.prog W 0 (fun _ => true) true Try.f11.params.toList args.toList ds p := hA0
  rw [Try.params11] at hA hval
  obtain ⟨v0, vs0, d0, ds0, p0, q0, hargs, rfl, rfl, h0, r0⟩ := trodAll_cons hA
  obtain ⟨v1, vs1, d1, ds1, p1, q1, rfl, rfl, rfl, h1, r1⟩ := trodAll_cons r0
  obtain ⟨v2, vs2, d2, ds2, p2, q2, rfl, rfl, rfl, h2, r2⟩ := trodAll_cons r1
  obtain ⟨rfl, rfl, rfl⟩ := trodAll_nil r2
  obtain rfl : args = #[v0, v1, v2] := by cases args; simp_all
  obtain ⟨rfl, rfl⟩ := trodVars_none hV
  obtain ⟨a0, rfl, rfl, rfl, w0⟩ := open_int Try.underlying3 (hval 0 3 v0 rfl rfl) h0
  obtain ⟨a1, len1, cap1, rfl⟩ := okWide_slice Try.underlying40 (hval 1 40 v1 rfl rfl)
  have k1 := h1
  have lt1 : ∀ x ∈ p1, x.block < W.heap.size := by obtain ⟨m, hm⟩ := k1; exact DataW.trod_lt m _ _ _ hm
  obtain ⟨z1, w1⟩ : ∃ zs, IsRow .i64 W a1 len1 cap1 zs := by
    obtain ⟨fuel, hf⟩ := h1
    rcases open_ints Try.underlying40 Try.underlying3 (by kernel_rfl) hf with ⟨hcs, _⟩ | ⟨x, l, c, zs, hcs, _, hl, hm, hz, _, hcell, hwz⟩
    · simp [Value.cells] at hcs
      obtain ⟨rfl, rfl, rfl⟩ := hcs
      exact ⟨[], .inl ⟨rfl, rfl, rfl, rfl⟩⟩
    · simp [Value.cells] at hcs
      obtain ⟨rfl, rfl, rfl⟩ := hcs
      exact ⟨zs, .inr ⟨_, rfl, hl, hm, by simpa using hz, hcell, hwz⟩⟩
  obtain ⟨a2, len2, cap2, rfl⟩ := okWide_slice Try.underlying47 (hval 2 47 v2 rfl rfl)
  have k2 := h2
  have lt2 : ∀ x ∈ p2, x.block < W.heap.size := by obtain ⟨m, hm⟩ := k2; exact DataW.trod_lt m _ _ _ hm
  obtain ⟨z2, w2⟩ : ∃ zs, IsMarks W a2 len2 cap2 zs := by
    obtain ⟨fuel, hf⟩ := h2
    exact open_marks Try.underlying47 Try.underlying78 (by kernel_rfl) rfl rfl (by kernel_rfl) (by kernel_rfl) Try.underlying3 Try.underlying3 hf
  clear hA0 hval0
  refine (walk a0 _ _ _ _ W w0 w1.wf7 (RdInts.of_row w1) (RdMarks.of_row w2)).mono fun e W' ⟨he, bel⟩ => ?_
  subst he
  exact ⟨_, rfl, _, _, _, [], _, [], hW', trodAll_mk1 (shut_bool Try.underlying4 _), (trodAll_cons_mk (shut_int Try.underlying3 w0) (trodAll_cons_mk (Below.trod Try.laidOut (by kernel_rfl) (of_decide_eq_true (by kernel_rfl)) k1 bel lt1) (trodAll_cons_mk (Below.trod Try.laidOut (by kernel_rfl) (of_decide_eq_true (by kernel_rfl)) k2 bel lt2) trodAll_mk0))), rfl, bel.frame _, fun h => by cases h⟩

theorem closed : joinedFacts Try.pinned.checked.prog 11 Try.f11 Rows.fnExactChainTermSpec Rows.fnExactChainTermRow = true := by
  unfold joinedFacts
  exact (and_tt (and_tt (and_tt (and_tt (and_tt (and_tt (and_tt (and_tt (and_tt (and_tt (and_tt (and_tt (and_tt (and_tt (and_tt (and_tt (and_tt (and_tt (and_tt (and_tt (and_tt (and_tt (and_tt (and_tt (and_tt (and_tt (and_tt (and_tt (and_tt (and_tt (and_tt (by kernel_rfl) (by kernel_rfl)) (by kernel_rfl)) (by kernel_rfl)) (by kernel_rfl)) (by kernel_rfl)) (by kernel_rfl)) (by kernel_rfl)) (by kernel_rfl)) (by kernel_rfl)) (by kernel_rfl)) (by kernel_rfl)) (by kernel_rfl)) (by kernel_rfl)) (by kernel_rfl)) (by kernel_rfl)) (by kernel_rfl)) (by kernel_rfl)) (by kernel_rfl)) (by kernel_rfl)) (by kernel_rfl)) (by kernel_rfl)) (by kernel_rfl)) (by kernel_rfl)) (by kernel_rfl)) Try.mayEnter0) (lifted_tt Try.lifts0 rfl)) (make_tt Try.make0 rfl)) (by kernel_rfl)) (by kernel_rfl)) (by kernel_rfl)) (by kernel_rfl))
theorem over : Rows.fnExactChainTermRow.holds Try.pinned (OpenSpec.ofChange Rows.fnExactChainTermSpec) :=
  OpenClaim.holds_of_wide 11 Try.f11 rfl rfl rfl rfl rfl rfl rfl ⟨rfl, rfl, rfl, rfl, rfl⟩ rfl rfl rfl rfl rfl (by kernel_rfl) Try.func11 closed
    (of_decide_eq_true (by kernel_rfl)) (by unfold Func.isWrapper; first | (rw [if_pos (by decide +kernel)]; kernel_rfl) | (rw [if_neg (by decide +kernel)]; exact ⟨rfl, rfl⟩))
    (fun os started H enc _ => lifted os started H enc)

theorem proved : Rows.FnExactChainTermSaid := over
end Go.Proofs.Ytemldnjpcnogpaa.fnExactChainTerm


/- Contract of the reference's l11Read: a split read from a place of a text on, and the induction. -/
import Derived.Test.YtefmoljipbbmmaaDoorPrfRead
namespace Go.Proofs.YtefmoljipbbmmaaDoor
open Go.RowKit Go.Joins
theorem node_flat {sp : List Sp3} {m K : Nat} {a b : PT} {x : Int} (hm : sp.length = m) (hx : x = (K : Int)) (z1 z2 : Int) (h1 : z1 = a.tgt (m + 1)) (h2 : z2 = b.tgt (m + 1 + a.size)) :
    (sp ++ [(x, -1, -1)] ++ a.flat (m + 1) ++ b.flat (m + 1 + a.size)).set m (x, z1, z2) = sp ++ (PT.node K a b).flat m := by
  have e : sp ++ [(x, (-1 : Int), (-1 : Int))] ++ a.flat (m + 1) ++ b.flat (m + 1 + a.size) = sp ++ (x, (-1 : Int), (-1 : Int)) :: (a.flat (m + 1) ++ b.flat (m + 1 + a.size)) := by simp
  rw [e, set_at hm, h1, h2, hx]
  rfl
theorem nats8_sep {s : List UInt8} {j : Nat} {z : Nat} {r : List Nat} (h : nats8 (s.drop j) = z :: r) : j < s.length := by
  by_cases hj : j < s.length
  · exact hj
  · rw [nats8_end (by omega)] at h; cases h
theorem nats8_sep2 {s : List UInt8} {j : Nat} {z : Nat} {r : List Nat} {d : UInt8} (h : nats8 (s.drop j) = z :: r) (hj : nats8 (s.drop j) = d.toNat :: nats8 (s.drop (j + 1))) : d.toNat = z ∧ nats8 (s.drop (j + 1)) = r := by
  rw [hj] at h; cases h; exact ⟨rfl, rfl⟩
attribute [local irreducible] holds tabN tabV holdsV sameV followsV alwaysV matterV claimOk mayT mayV ctabV ctabN storyV storyOk storyN storyT ctermV ctermL followsF agreeN agreeB closeB chkN checks nextOk ints hfV clL provesF onceB proofV noneK growR clashF leastU unkN scells findF growT foundS foundG bt treeOf tbF readT nats8
set_option maxRecDepth 100000 in
set_option maxHeartbeats 16000000 in
theorem specRead_node (s : List UInt8) (hs : s.length ≤ 200) (f k : Nat) (ih : ReadC11 34 s f) (sp : List Sp3) (hf : 16 ≤ f + 1 + sp.length) (hk : k + 1 < s.length) (c : UInt8) (hget : ∀ h', (⟨s.toArray⟩ : ByteArray)[k]'h' = c) (hn8 : nats8 (s.drop k) = c.toNat :: 40 :: nats8 (s.drop (k + 2)))
    (hc1 : 97 ≤ c.toNat) (hc2 : c.toNat ≤ 100) (hget1 : ∀ h', (⟨s.toArray⟩ : ByteArray)[k + 1]'h' = 40) (h15 : sp.length < 15) (base : Nat) (v : Value) (w : World) (ho : w.ownsRow base TSp 3 v sp.length (scells sp)) (hbase : base ≤ w.heap.size) :
    Calls Tryd.prog 34 #[sv s, .int .i64 (k : Int), v] w (ReadOut11 s k sp (f + 1) base w) := by
  have h2 : (k : Int) < (s.length : Int) := by omega
  have h0 : (0 : Int) ≤ (k : Int) := by omega
  have hk0 : (0 : Int) ≤ (k : Int) + 1 := by omega
  have hkt : ((k : Int) + 1).toNat = k + 1 := by omega
  have a5 : (k : Int) + 1 < (s.length : Int) := by omega
  have hw : IntKind.i64.wrap ((k : Int) + 1) = (k : Int) + 1 := IntWalk.i64_in _ (by omega)
  have hw2 : IntKind.i64.wrap ((k : Int) + 2) = (k : Int) + 2 := IntWalk.i64_in _ (by omega)
  have e42 : ¬ (c.toNat : Int) = 42 := by omega
  have a1 : (48 : Int) ≤ (c.toNat : Int) := by omega
  have a2 : (53 : Int) < (c.toNat : Int) := by omega
  have a3 : (97 : Int) ≤ (c.toNat : Int) := by omega
  have a4 : (c.toNat : Int) ≤ 100 := by omega
  obtain ⟨so, scap, rfl⟩ := own_len ho
  obtain ⟨m, hm⟩ : ∃ m, m = sp.length := ⟨_, rfl⟩
  have hspl := split_runs w base (.slice so sp.length scap) sp ((c.toNat : Int) - 97) ho (by omega)
  rw [← hm] at hspl ⊢
  obtain ⟨f5, g5, w5, g6, c6, w6, hrun5, hrun6, hown6, hb6⟩ := hspl
  have hs6 := hb6.size
  have a7 : ¬ (15 : Int) ≤ (m : Int) := by omega
  have hlen1 : (sp ++ [((c.toNat : Int) - 97, (-1 : Int), (-1 : Int))]).length = m + 1 := by rw [List.length_append, ← hm]; rfl
  have hcall1 := ih (k + 2) (sp ++ [((c.toNat : Int) - 97, -1, -1)]) (by omega) (by rw [hlen1]; omega) (by rw [hlen1]; omega) w.heap.size (.slice (some ⟨g6, 0, none⟩) (m + 1) c6) w6 (by rw [hlen1]; exact hown6) hs6
  rw [show ((k + 2 : Nat) : Int) = (k : Int) + 2 by omega] at hcall1
  have Hcall1 := Lib.hid hcall1
  have Hrun5 := Lib.hid hrun5
  have Hrun6 := Lib.hid hrun6
  have Hb6 := Lib.hid hb6
  have HN := Lib.hid hn8
  have Hnone : Hid ((∀ a r2 b q, readT f (nats8 (s.drop (k + 2))) (m + 1) = some (a, 44 :: r2) → readT f r2 (m + 1 + a.size) = some (b, 41 :: q) → False) → readT (f + 1) (nats8 (s.drop k)) sp.length = none) := fun h => by
    rw [HN.out, ← hm]; exact readT_none hc1 hc2 h
  have Hyes : Hid (∀ a r2 b q, readT f (nats8 (s.drop (k + 2))) (m + 1) = some (a, 44 :: r2) → readT f r2 (m + 1 + a.size) = some (b, 41 :: q) → readT (f + 1) (nats8 (s.drop k)) sp.length = some (.node (c.toNat - 97) a b, q)) := fun a r2 b q ha hb => by
    rw [HN.out, ← hm]; exact readT_of hc1 hc2 (by omega) ha hb
  have Hcx : Hid ((c.toNat : Int) - 97 = ((c.toNat - 97 : Nat) : Int)) := by unfold Hid; omega
  have Hih := Lib.hid ih
  have Hm := Lib.hid hm
  have Hfm : Hid (16 ≤ f + 1 + m) := by unfold Hid; omega
  have hm15 : m < 15 := by omega
  clear ho hcall1 hrun5 hrun6 hown6 hb6 hn8 ih hm hc1 hc2 h15 hf
  go_enter Tryd.func34, Tryd.ntmps34
  go_upto_region 12 with (first
    | (at_builtin; refine Lib.wpList_append_run _ rfl (.tmp 86) (.tmp 87) _ _ rfl _ _ rfl rfl _ _ Hrun5.out ?_)
    | (at_builtin; refine Lib.wpList_append_run _ rfl (.tmp 88) (.tmp 91) _ _ rfl _ _ rfl rfl _ _ Hrun6.out ?_)
    | fail)
  clear Hrun5 Hrun6 hget hget1 e42 a1 a2 hk0 hkt a5 a7
  go_wp2_with fail
  refine Hcall1.out.mono ?_
  rintro e w7 ⟨hb7, ao, len, cap, fi, nx, rfl, hres⟩
  have hs7 := hb7.size
  have Hb7 := Lib.hid (Hb6.out.trans (hb7.mono hs6))
  rw [hlen1] at hres
  clear hb7 Hcall1 Hb6
  rcases hres with ⟨a, j, rfl, hkj, hjs, hra, hlen, rfl, hown7⟩ | ⟨rfl, rfl, hrn⟩
  case inr =>
    have Hr : Hid (readT (f + 1) (nats8 (s.drop k)) sp.length = none) := Hnone.out (fun a r2 b q ha hb => by rw [hrn] at ha; cases ha)
    clear hrn Hnone Hyes
    go_wp2
    go_ret3
    exact ⟨Hb7.out, _, _, _, _, _, rfl, .inr ⟨rfl, rfl, Hr.out⟩⟩
  have hsz15 := (text_read _ _ _ _ _ hra).2.2 (by omega)
  have Hra := Lib.hid hra
  rw [List.length_append, PT.flat_len, hlen1] at hlen
  subst hlen
  have Hown7 := Lib.hid hown7
  clear hra hown7
  by_cases hjl : j < s.length
  case neg =>
    have Hr : Hid (readT (f + 1) (nats8 (s.drop k)) sp.length = none) := Hnone.out (fun a' r2 b q ha hb => by
      rw [Hra.out] at ha
      have e2 : nats8 (s.drop j) = 44 :: r2 := by injection ha with ha; injection ha
      exact hjl (nats8_sep e2))
    have b1 : ¬ (j : Int) < 0 := by omega
    have b2 : (s.length : Int) ≤ (j : Int) := by omega
    have b3 : s.length ≤ j := by omega
    clear Hnone Hyes Hra hjl hkj hjs
    go_wp2
    go_ret3
    exact ⟨Hb7.out, _, _, _, _, _, rfl, .inr ⟨rfl, rfl, Hr.out⟩⟩
  obtain ⟨d, _, hd8, hdget⟩ := nats8_drop hjl
  have b1 : ¬ (j : Int) < 0 := by omega
  have b2 : (j : Int) < (s.length : Int) := by omega
  have b3 : (0 : Int) ≤ (j : Int) := by omega
  by_cases hd44 : d.toNat = 44
  case neg =>
    have Hr : Hid (readT (f + 1) (nats8 (s.drop k)) sp.length = none) := Hnone.out (fun a' r2 b q ha hb => by
      rw [Hra.out] at ha
      have e2 : nats8 (s.drop j) = 44 :: r2 := by injection ha with ha; injection ha
      exact hd44 (nats8_sep2 e2 hd8).1)
    have b4 : ¬ (d.toNat : Int) = 44 := by omega
    have b5 : ((d.toNat : Int) != 44) = true := by rw [bne_iff_ne]; exact b4
    clear Hnone Hyes Hra hkj hjs hd8 hd44
    go_wp2
    go_ret3
    exact ⟨Hb7.out, _, _, _, _, _, rfl, .inr ⟨rfl, rfl, Hr.out⟩⟩
  have b4 : (d.toNat : Int) = 44 := by omega
  have Hra' : Hid (readT f (nats8 (s.drop (k + 2))) (m + 1) = some (a, 44 :: nats8 (s.drop (j + 1)))) := by unfold Hid; rw [Hra.out, hd8, hd44]
  have hw3 : IntKind.i64.wrap ((j : Int) + 1) = (j : Int) + 1 := IntWalk.i64_in _ (by omega)
  have hlen2 : (sp ++ [((c.toNat : Int) - 97, (-1 : Int), (-1 : Int))] ++ a.flat (m + 1)).length = m + 1 + a.size := by rw [List.length_append, PT.flat_len, hlen1]
  have hown7' := Hown7.out
  have hcall2 := Hih.out (j + 1) (sp ++ [((c.toNat : Int) - 97, -1, -1)] ++ a.flat (m + 1)) (by omega) (by rw [hlen2]; omega) (by rw [hlen2]; have := Hfm.out; omega) w.heap.size (.slice ao (m + 1 + a.size) cap) w7 (by rw [hlen2]; exact hown7') (by omega)
  rw [show ((j + 1 : Nat) : Int) = (j : Int) + 1 by omega] at hcall2
  have Hcall2 := Lib.hid hcall2
  clear hcall2 hown7' hd8 hd44 Hra Hown7
  go_upto_region 15 with fail
  go_wp2_with fail
  refine Hcall2.out.mono ?_
  rintro e w8 ⟨hb8, ao2, len2, cap2, fi2, nx2, rfl, hres2⟩
  have hs8 := hb8.size
  have Hb8 := Lib.hid (Hb7.out.trans (hb8.mono (by omega)))
  rw [hlen2] at hres2
  clear hb8 Hcall2 Hb7 b1 b2 b3 b4 hdget hw3 Hih
  rcases hres2 with ⟨b, j2, rfl, hkj2, hjs2, hrb, hlenb, rfl, hown8⟩ | ⟨rfl, rfl, hrn2⟩
  case inr =>
    have Hr : Hid (readT (f + 1) (nats8 (s.drop k)) sp.length = none) := Hnone.out (fun a' r2 b q ha hb => by
      rw [Hra'.out] at ha
      injection ha with ha
      injection ha with ha1 ha2
      injection ha2 with _ ha3
      subst ha1 ha3
      rw [hrn2] at hb; cases hb)
    clear hrn2 Hnone Hyes Hra'
    go_wp2
    go_ret3
    exact ⟨Hb8.out, _, _, _, _, _, rfl, .inr ⟨rfl, rfl, Hr.out⟩⟩
  have Hrb := Lib.hid hrb
  rw [List.length_append, PT.flat_len, hlen2] at hlenb
  subst hlenb
  have Hown8 := Lib.hid hown8
  clear hrb hown8
  by_cases hjl2 : j2 < s.length
  case neg =>
    have Hr : Hid (readT (f + 1) (nats8 (s.drop k)) sp.length = none) := Hnone.out (fun a' r2 b' q ha hb => by
      rw [Hra'.out] at ha
      injection ha with ha
      injection ha with ha1 ha2
      injection ha2 with _ ha3
      subst ha1 ha3
      rw [Hrb.out] at hb
      have e2 : nats8 (s.drop j2) = 41 :: q := by injection hb with hb; injection hb
      exact hjl2 (nats8_sep e2))
    have b1 : ¬ (j2 : Int) < 0 := by omega
    have b2 : (s.length : Int) ≤ (j2 : Int) := by omega
    have b3 : s.length ≤ j2 := by omega
    clear Hnone Hyes Hra' Hrb hjl2 hkj2 hjs2
    go_wp2
    go_ret3
    exact ⟨Hb8.out, _, _, _, _, _, rfl, .inr ⟨rfl, rfl, Hr.out⟩⟩
  obtain ⟨d2, _, hd82, hdget2⟩ := nats8_drop hjl2
  have b1 : ¬ (j2 : Int) < 0 := by omega
  have b2 : (j2 : Int) < (s.length : Int) := by omega
  have b3 : (0 : Int) ≤ (j2 : Int) := by omega
  by_cases hd41 : d2.toNat = 41
  case neg =>
    have Hr : Hid (readT (f + 1) (nats8 (s.drop k)) sp.length = none) := Hnone.out (fun a' r2 b' q ha hb => by
      rw [Hra'.out] at ha
      injection ha with ha
      injection ha with ha1 ha2
      injection ha2 with _ ha3
      subst ha1 ha3
      rw [Hrb.out] at hb
      have e2 : nats8 (s.drop j2) = 41 :: q := by injection hb with hb; injection hb
      exact hd41 (nats8_sep2 e2 hd82).1)
    have b4 : ¬ (d2.toNat : Int) = 41 := by omega
    have b5 : ((d2.toNat : Int) != 41) = true := by rw [bne_iff_ne]; exact b4
    clear Hnone Hyes Hra' Hrb hkj2 hjs2 hd82 hd41
    go_wp2
    go_ret3
    exact ⟨Hb8.out, _, _, _, _, _, rfl, .inr ⟨rfl, rfl, Hr.out⟩⟩
  have b4 : (d2.toNat : Int) = 41 := by omega
  have Hr : Hid (readT (f + 1) (nats8 (s.drop k)) sp.length = some (.node (c.toNat - 97) a b, nats8 (s.drop (j2 + 1)))) := Hyes.out a _ b _ Hra'.out (by rw [Hrb.out, hd82, hd41])
  have hw4 : IntKind.i64.wrap ((j2 : Int) + 1) = (j2 : Int) + 1 := IntWalk.i64_in _ (by omega)
  have hfl := node_flat (sp := sp) (m := m) (K := c.toNat - 97) (a := a) (b := b) Hm.out.symm Hcx.out (a.tgt (m + 1)) (b.tgt (m + 1 + a.size)) rfl rfl
  have hown8' := Hown8.out
  obtain ⟨g12, c12, rfl, rfl⟩ : ∃ g12 c12, ao2 = some ⟨g12, 0, none⟩ ∧ cap2 = c12 := by
    rcases hown8'.2 with ⟨_, h0⟩ | ⟨g12, c12, cur, h, _⟩
    · omega
    · cases h; exact ⟨g12, _, rfl, rfl⟩
  have hsc12 : m + 1 + a.size + b.size ≤ cap2 := by
    rcases hown8'.2 with ⟨h, _⟩ | ⟨_, _, cur, h, _, _, h2, _⟩
    · cases h
    · cases h; exact h2
  have hlen3 : (sp ++ [((c.toNat : Int) - 97, (-1 : Int), (-1 : Int))] ++ a.flat (m + 1) ++ b.flat (m + 1 + a.size)).length = m + 1 + a.size + b.size := by rw [List.length_append, PT.flat_len, hlen2]
  obtain ⟨ho13, hb13, ⟨ca, cb, cc, q1, q2, q3⟩, z1, z2, z3⟩ := split_stored hown8' hlen3 m (by omega) ((c.toNat : Int) - 97, a.tgt (m + 1), b.tgt (m + 1 + a.size))
  rw [hfl] at ho13
  dsimp only at ho13 hb13
  have Ho13 := Lib.hid ho13
  have Hb13 := Lib.hid (Hb8.out.trans hb13)
  have HL : Hid (m + 1 + a.size + b.size = (sp ++ (PT.node (c.toNat - 97) a b).flat m).length) := by unfold Hid; rw [← hfl, List.length_set]; exact hlen3.symm
  have hj2k : k < j2 + 1 := by omega
  have HJ : Hid (j2 + 1 ≤ s.length) := hjl2
  clear hown8' hlen3 ho13 hb13 hfl Hown8 Hb8 Hnone Hyes Hra' Hrb hkj hjs hkj2 hjs2 hd82 hd41 hjl hjl2
  generalize a.tgt (m + 1) = y1 at *
  generalize b.tgt (m + 1 + a.size) = y2 at *
  generalize hq : m + 1 + a.size + b.size = L at *
  have hmL : (m : Int) < (L : Int) := by omega
  clear hq
  go_upto_region 19 with fail
  generalize ((w8.setCell ⟨g12, m * 3, none⟩ (.int .i64 ((c.toNat : Int) - 97))).setCell ⟨g12, m * 3 + 1, none⟩ (.int .i64 y1)).setCell ⟨g12, m * 3 + 2, none⟩ (.int .i64 y2) = w13 at *
  clear q1 q2 q3 z1 z2 z3 b1 b2 b3 b4 hdget2
  go_wp2
  go_ret3
  have HB : w13.ownsRow base TSp 3 (.slice (some ⟨g12, 0, none⟩) L cap2) L (scells (sp ++ (PT.node (c.toNat - 97) a b).flat m)) := own_mono Ho13.out hbase
  have hm' := Hm.out
  subst hm'
  exact ⟨Hb13.out, _, _, _, _, _, rfl, .inl ⟨_, j2 + 1, by omega, hj2k, HJ.out, Hr.out, HL.out, rfl, HB⟩⟩
/-- reading a tree from a place of a text on -/
theorem specRead11 (s : List UInt8) (hs : s.length ≤ 200) : ∀ f, ReadC11 34 s f := by
  intro f
  induction f with
  | zero => intro k sp _ h15 hf; omega
  | succ f ih =>
    intro k sp hk h15 hf base v w ho hbase
    by_cases hkl : k < s.length
    case neg => exact specRead_end s hs f k sp (by omega) base v w ho
    obtain ⟨c, hd, hn8, hget⟩ := nats8_drop hkl
    by_cases hleaf : c.toNat = 42 ∨ (48 ≤ c.toNat ∧ c.toNat ≤ 53)
    · exact specRead_leaf s hs f k sp hkl c hn8 hget hleaf base v w ho
    have h42 : c.toNat ≠ 42 := fun h => hleaf (.inl h)
    have hdig : ¬ (48 ≤ c.toNat ∧ c.toNat ≤ 53) := fun h => hleaf (.inr h)
    have bad : ∀ (hbad : c.toNat < 97 ∨ 100 < c.toNat ∨ s.length ≤ k + 1 ∨ (∃ d : UInt8, k + 1 < s.length ∧ (∀ h', (⟨s.toArray⟩ : ByteArray)[k + 1]'h' = d) ∧ d.toNat ≠ 40) ∨ (∃ d : UInt8, k + 1 < s.length ∧ (∀ h', (⟨s.toArray⟩ : ByteArray)[k + 1]'h' = d) ∧ d.toNat = 40 ∧ 15 ≤ sp.length))
        (hn : ¬ (97 ≤ c.toNat ∧ c.toNat ≤ 100 ∧ (nats8 (s.drop (k + 1))).head? = some 40 ∧ sp.length < 15)), Calls Tryd.prog 34 #[sv s, .int .i64 (k : Int), v] w (ReadOut11 s k sp (f + 1) base w) := fun hbad hn =>
      specRead_bad s hs f k sp hkl c hget h42 hdig (by rw [hn8]; exact readT_bad h42 hdig hn) hbad base v w ho
    by_cases hc1 : 97 ≤ c.toNat
    case neg => exact bad (.inl (by omega)) (fun h => hc1 h.1)
    by_cases hc2 : c.toNat ≤ 100
    case neg => exact bad (.inr (.inl (by omega))) (fun h => hc2 h.2.1)
    by_cases hk1 : k + 1 < s.length
    case neg => exact bad (.inr (.inr (.inl (by omega)))) (fun h => by have := h.2.2.1; rw [nats8_end (by omega)] at this; cases this)
    obtain ⟨d, hd1, hn81, hget1⟩ := nats8_drop hk1
    by_cases hd40 : d.toNat = 40
    case neg => exact bad (.inr (.inr (.inr (.inl ⟨d, hk1, hget1, hd40⟩)))) (fun h => hd40 ((nats8_head hk1 hd1 40).1 h.2.2.1))
    by_cases hsp : sp.length < 15
    case neg => exact bad (.inr (.inr (.inr (.inr ⟨d, hk1, hget1, hd40, by omega⟩)))) (fun h => hsp h.2.2.2)
    have hd : d = 40 := by rw [show (40 : UInt8) = UInt8.ofNat 40 from rfl, ← hd40]; simp
    subst hd
    rw [hn81] at hn8
    exact specRead_node s hs f k ih sp hf hk1 c hget hn8 hc1 hc2 hget1 hsp base v w ho hbase
end Go.Proofs.YtefmoljipbbmmaaDoor

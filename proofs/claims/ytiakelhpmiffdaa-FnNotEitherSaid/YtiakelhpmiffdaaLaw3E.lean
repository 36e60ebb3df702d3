/- A law of stage 3: neither is both not. It answers true, whatever the code. No condition. -/
import Derived.Test.YtiakelhpmiffdaaDrawH
import Derived.Test.YtiakelhpmiffdaaMirrorS
import Derived.Test.YtiakelhpmiffdaaTruthI
import Derived.Test.YtiakelhpmiffdaaLawsA
import Derived.Deep.RegionHeld3
import Derived.Deep.Cut
import Derived.Maps.AppendAt
import Derived.Laws.Rows
import Derived.Deep.AppendLies
namespace Go.Proofs.Ytiakelhpmiffdaa
open Go.RowKit Go.Joins
/-- in the midst of a region that draws its order: the row of its own that it grows, and, if they lie already (block 'at'), the marks that it will append last -/
def Have (w0 : World) (at_ : Option Nat) (ns : List Value) (w : World) (v : Value) (n : Nat) (cs : List Value) : Prop :=
  w0.grownBy w none ∧ w.ownsRow w0.heap.size TM 2 v n cs ∧ ∀ b, at_ = some b → w0.heap.size ≤ b ∧ b < w.heap.size ∧ v.ownBlock ≠ some b ∧ ∀ (j : Nat) (u : Value), ns[j]? = some u → w.cell? ((⟨b, 0, none⟩ : Addr).add j) = some u
theorem Have.start (w0 : World) (ns : List Value) : Have w0 none ns (w0.alloc (.cells #[] TM)) (.slice (some ⟨w0.heap.size, 0, none⟩) 0 0) 0 [] :=
  ⟨only_alloc (World.grownBy.refl _ _) _, World.ownsRow_made w0 #[] 0 (Nat.le_refl _) (Nat.zero_le _) rfl, fun b hb => by cases hb⟩
theorem Have.lay {w0 w : World} {ns : List Value} {v : Value} {n : Nat} {cs : List Value} (h : Have w0 none ns w v n cs) (o : Obj) (hn : ∀ (j : Nat) (u : Value), ns[j]? = some u → (w.alloc o).cell? ((⟨w.heap.size, 0, none⟩ : Addr).add j) = some u) :
    Have w0 (some w.heap.size) ns (w.alloc o) v n cs := by
  refine ⟨only_alloc h.1 _, h.2.1.alloc _, fun b hb => ?_⟩
  cases hb
  refine ⟨h.1.size, by simp, fun e => ?_, hn⟩
  have := (h.2.1.lt _ e).2
  omega
theorem Have.laid_next (w0 : World) (ns : List Value) (o : Obj) (hn : ∀ (j : Nat) (u : Value), ns[j]? = some u → ((w0.alloc (.cells #[] TM)).alloc o).cell? ((⟨(w0.alloc (.cells #[] TM)).heap.size, 0, none⟩ : Addr).add j) = some u) :
    Have w0 (some (w0.heap.size + 1)) ns ((w0.alloc (.cells #[] TM)).alloc o) (.slice (some ⟨w0.heap.size, 0, none⟩) 0 0) 0 [] := by
  have h := (Have.start w0 ns).lay o hn
  have e : (w0.alloc (.cells #[] TM)).heap.size = w0.heap.size + 1 := by simp
  rw [e] at h
  exact h
theorem Have.laid_first (w0 : World) (ns : List Value) (o : Obj) (hn : ∀ (j : Nat) (u : Value), ns[j]? = some u → (w0.alloc o).cell? ((⟨w0.heap.size, 0, none⟩ : Addr).add j) = some u) :
    Have w0 (some w0.heap.size) ns ((w0.alloc o).alloc (.cells #[] TM)) (.slice (some ⟨w0.heap.size + 1, 0, none⟩) 0 0) 0 [] := by
  have h := World.ownsRow_made (base := w0.heap.size) (size := 2) (e := TM) (w0.alloc o) #[] 0 (by simp) (Nat.zero_le _) rfl
  have e : (w0.alloc o).heap.size = w0.heap.size + 1 := by simp
  rw [e] at h
  refine ⟨only_alloc (only_alloc (World.grownBy.refl _ _) _) _, h, fun b hb => ?_⟩
  cases hb
  refine ⟨Nat.le_refl _, by simp; omega, fun e => by simp [Value.ownBlock] at e, cells_alloc hn (by simp) _⟩
theorem Have.drewN {w0 w : World} {at_ : Option Nat} {ns : List Value} {v : Value} {n : Nat} {cs : List Value} (h : Have w0 at_ ns w v n cs) (k : Nat) : Have w0 at_ ns (w.drewN k) v n cs :=
  ⟨grownBy_drewN h.1 k, h.2.1, h.2.2⟩
theorem Have.drew {w0 w : World} {at_ : Option Nat} {ns : List Value} {v : Value} {n : Nat} {cs : List Value} (h : Have w0 at_ ns w v n cs) : Have w0 at_ ns w.drew v n cs := h.drewN 1
/-- an append of what came in -/
theorem app_keep {P : Program} {ops : Array Oper} {o : Oper} {a : Act} {w : World} {K : Act → World → Prop} {Q : Exit → Act → World → Prop} {E : Prop} {im : TypeInfo} (hgd : o.guard = none) (s x : Operand) (t : TypeId)
    (ho : o.op = .call { callee := .builtin .append, args := #[s, x], argTypes := #[t, t] }) (ht : P.underlying t = some (.slice TM)) (hi : P.info? TM = some im) (hz : im.zero = some (.agg #[.int .i64 0, .int .i64 0])) (hsize : im.size = 2) (hby : im.bytes = 16)
    {w0 : World} {at_ : Option Nat} {ns : List Value} {v : Value} {n : Nat} {cs : List Value} (h : Have w0 at_ ns w v n cs) (hs : a.eval s = v)
    {g m c base : Nat} {ms : List (Int × Int)} (hx : a.eval x = .slice (some ⟨g, 0, none⟩) m c) (hm : ms.length = m) (hsrc : w0.ownsRow base TM 2 (.slice (some ⟨g, 0, none⟩) m c) m (mcells ms)) (hl : n + m ≤ 1000000)
    (hK : ∀ v' w', Have w0 at_ ns w' v' (n + m) (cs ++ mcells ms) → K (a.put o.dst v') w') : if Region.wanted o (yielded ops a.tmps) = true then Oper.wp P o a w K Q else E := by
  have hw : Region.wanted o (yielded ops a.tmps) = true := by simp [Region.wanted, hgd]
  rw [if_pos hw]
  obtain ⟨hG, hown, hN⟩ := h
  obtain ⟨v', w', hr, h2, h3, _, h5⟩ := run_append_own_at (P := P) w w0.heap.size t o.type TM im (.agg #[.int .i64 0, .int .i64 0]) 2 16 ht hi hz hsize hby rfl (by omega) v n cs hown ⟨g, 0, none⟩ m c (mcells ms) (by rw [mcells_length, hm]) ((own_none hsrc hG).cells (g := g) rfl) (mcells_one _) (by unfold maxLen; omega) (by omega) hG.size
  unfold Oper.wp execOp
  simp only [ho, resolve, invoke, builtin, Sem.run_bind, Sem.run_pure, Result.andThen_ok, List.map_toArray, List.map_cons, List.map_nil, hs, hx, hr]
  refine hK v' w' ⟨grown_own hG h3 (fun k hk => (hown.lt k hk).1), h2, fun b hb => ?_⟩
  obtain ⟨h6, h7, h8, h9⟩ := hN b hb
  refine ⟨h6, by have := h3.size; omega, fun e => ?_, fun j u hj => ?_⟩
  · rcases h5 with h5 | h5
    · exact h8 (by rw [← h5]; exact e)
    · rw [h5] at e; cases e; omega
  · exact (h3.cell_far ((⟨b, 0, none⟩ : Addr).add j) (by rw [block_add]; exact h7) (by rw [block_add]; exact fun e => h8 e.symm)).trans (h9 j u hj)
/-- the append of the marks -/
theorem app_last {P : Program} {ops : Array Oper} {o : Oper} {a : Act} {w : World} {K : Act → World → Prop} {Q : Exit → Act → World → Prop} {E : Prop} {im : TypeInfo} (hgd : o.guard = none) (s x : Operand) (t : TypeId)
    (ho : o.op = .call { callee := .builtin .append, args := #[s, x], argTypes := #[t, t] }) (ht : P.underlying t = some (.slice TM)) (hi : P.info? TM = some im) (hz : im.zero = some (.agg #[.int .i64 0, .int .i64 0])) (hsize : im.size = 2) (hby : im.bytes = 16)
    {w0 : World} {b m c : Nat} {ns : List (Int × Int)} {v : Value} {n : Nat} {cs : List Value} (h : Have w0 (some b) (mcells ns) w v n cs) (hs : a.eval s = v)
    (hx : a.eval x = .slice (some ⟨b, 0, none⟩) m c) (hm : ns.length = m) (hl : n + m ≤ 1000000)
    (hK : ∀ v' w', w0.grownBy w' none → w'.ownsRow w0.heap.size TM 2 v' (n + m) (cs ++ mcells ns) → K (a.put o.dst v') w') : if Region.wanted o (yielded ops a.tmps) = true then Oper.wp P o a w K Q else E := by
  have hw : Region.wanted o (yielded ops a.tmps) = true := by simp [Region.wanted, hgd]
  rw [if_pos hw]
  obtain ⟨hG, hown, hN⟩ := h
  obtain ⟨_, _, _, h9⟩ := hN b rfl
  obtain ⟨v', w', hr, h2, h3, _, _⟩ := run_append_own_at (P := P) w w0.heap.size t o.type TM im (.agg #[.int .i64 0, .int .i64 0]) 2 16 ht hi hz hsize hby rfl (by omega) v n cs hown ⟨b, 0, none⟩ m c (mcells ns) (by rw [mcells_length, hm]) h9 (mcells_one _) (by unfold maxLen; omega) (by omega) hG.size
  unfold Oper.wp execOp
  simp only [ho, resolve, invoke, builtin, Sem.run_bind, Sem.run_pure, Result.andThen_ok, List.map_toArray, List.map_cons, List.map_nil, hs, hx, hr]
  exact hK v' w' (grown_own hG h3 (fun k hk => (hown.lt k hk).1)) h2
end Go.Proofs.Ytiakelhpmiffdaa
namespace Go.Proofs.Ytiakelhpmiffdaa.fnNotEither
open Go.ChangeShapes Go.WideShapes Go.ChangeAt Go.RowKit Go.Joins
attribute [local irreducible] holds tabN tabV holdsV sameV followsV alwaysV matterV mirV mirOk mcells tmOf
open Go.ChangeMaps (open_string shut_string)
set_option linter.unusedVariables false
set_option maxRecDepth 100000 in
set_option maxHeartbeats 4000000 in
theorem walk (a0 : Value) (n0 : Nat) (w : World) (w0 : RdBytes w w.heap.size a0 n0) :
    Calls Try.prog 10 #[a0] w fun e w' => e = .returned (.bool true) ∧ Below w.heap.size w w' := by
  have hr := w0
  by_cases hbig : n0 ≤ 1048576
  case neg =>
    obtain ⟨ao, cap, rfl, hl, hm, hc⟩ := w0
    have hbig' := code_big hbig
    unfold maxLen at hm
    clear hc hr hbig
    go_enter Try.func10, Try.ntmps10
    go_wp2
    go_ret
    exact ⟨rfl, Below.refl _ _⟩
  have hbig' : (n0 : Int) ≤ 1048576 := by omega
  clear hbig
  obtain ⟨ao, cap, rfl, hl, hm, hc⟩ := w0
  have Hr := Lib.hid hr
  clear hc hr hl hm
  go_enter Try.func10, Try.ntmps10
  go_wp2_with fail
  refine (drawSameOk _ _ _ Hr.out).mono ?_
  rintro e w1 ⟨p, ga, ca, gb, cb, xs, ys, hp1, hp8, rfl, hownA, hownB, hiA, hiB, hxl, hyl, hB1⟩
  obtain ⟨im, hmi, hmz0, hmz1, hmz2⟩ := info_parts Try.infoM
  have Mi := Lib.hid hmi; clear hmi
  have Mz0 := Lib.hid hmz0; clear hmz0
  have Mz1 := Lib.hid hmz1; clear hmz1
  have Mz2 := Lib.hid hmz2; clear hmz2
  have HiA := Lib.hid hiA
  have HiB := Lib.hid hiB
  have HoA1 := Lib.hid hownA
  have HoB1 := Lib.hid hownB
  clear hownA hownB hiA hiB
  go_upto_region 5 with fail
  obtain ⟨w2, hw2⟩ : ∃ w2 : World, w2 = w1.alloc (.cells #[.int .i64 2, .int .i64 0] TM) := ⟨_, rfl⟩
  have hG12 : w1.grownBy w2 none := by rw [hw2]; exact only_alloc (World.grownBy.refl _ _) _
  have n02 : w2.cell? ⟨w1.heap.size, 0, none⟩ = some (.int .i64 2) := by rw [hw2]; go_simp
  have n12 : w2.cell? ⟨w1.heap.size, 1, none⟩ = some (.int .i64 0) := by rw [hw2]; go_simp
  have hs12 : w1.heap.size < w2.heap.size := by rw [hw2]; simp
  have HoA2 := Lib.hid (own_none HoA1.out hG12)
  have HoB2 := Lib.hid (own_none HoB1.out hG12)
  have hB2 : Below w.heap.size w w2 := hB1.trans ((below_none hG12).mono hB1.size)
  rw [← hw2]
  clear hw2 hG12 HoA1 HoB1 hB1
  go_cut [7] from 9 (fun v wr => w2.grownBy wr none ∧ wr.ownsRow w2.heap.size TM 2 v (xs.length + ys.length + 2) (mcells xs ++ mcells ys ++ mcells [(4, 0), (2, 0)]))
  case first =>
    go_region_held3 (fun w' => w'.cell? ⟨w1.heap.size, 0, none⟩ = some (.int .i64 2) ∧ w'.cell? ⟨w1.heap.size, 1, none⟩ = some (.int .i64 0))
      (first | (refine ⟨?_, ?_⟩ <;> first | go_keep | assumption) | assumption)
      (first
        | (refine app_keep (by rfl) (.tmp 19) (.tmp 20) 23 (by rfl) rfl Mi.out Mz0.out Mz1.out Mz2.out (by first | exact Have.start w2 (mcells [(4, 0), (2, 0)]) | exact (Have.start w2 (mcells [(4, 0), (2, 0)])).drew | exact (Have.start w2 (mcells [(4, 0), (2, 0)])).drewN _) (by rfl) (by rfl) rfl (by exact HoA2.out) ?_ ?_
           go_must (omega)
           go_must (intro v1 wa hh
                    have n0wa := ((hh.1).cell_far ⟨w1.heap.size, 0, none⟩ (by omega) (by simp)).trans n02
                    have n1wa := ((hh.1).cell_far ⟨w1.heap.size, 1, none⟩ (by omega) (by simp)).trans n12
                    have hzwa := hh.1.size
                    have H1 := Lib.hid hh; clear hh))
        | (refine app_keep (by rfl) (.tmp 19) (.tmp 20) 23 (by rfl) rfl Mi.out Mz0.out Mz1.out Mz2.out (by first | exact Have.laid_next w2 (mcells [(4, 0), (2, 0)]) _ (news4 _ _ rfl _ _ _ _ _) | exact (Have.laid_next w2 (mcells [(4, 0), (2, 0)]) _ (news4 _ _ rfl _ _ _ _ _)).drew | exact (Have.laid_next w2 (mcells [(4, 0), (2, 0)]) _ (news4 _ _ rfl _ _ _ _ _)).drewN _) (by rfl) (by rfl) rfl (by exact HoA2.out) ?_ ?_
           go_must (omega)
           go_must (intro v1 wa hh
                    have n0wa := ((hh.1).cell_far ⟨w1.heap.size, 0, none⟩ (by omega) (by simp)).trans n02
                    have n1wa := ((hh.1).cell_far ⟨w1.heap.size, 1, none⟩ (by omega) (by simp)).trans n12
                    have hzwa := hh.1.size
                    have H1 := Lib.hid hh; clear hh))
        | (refine app_keep (by rfl) (.tmp 19) (.tmp 20) 23 (by rfl) rfl Mi.out Mz0.out Mz1.out Mz2.out (by first | exact Have.laid_first w2 (mcells [(4, 0), (2, 0)]) _ (news4 _ _ rfl _ _ _ _ _) | exact (Have.laid_first w2 (mcells [(4, 0), (2, 0)]) _ (news4 _ _ rfl _ _ _ _ _)).drew | exact (Have.laid_first w2 (mcells [(4, 0), (2, 0)]) _ (news4 _ _ rfl _ _ _ _ _)).drewN _) (by rfl) (by rfl) rfl (by exact HoA2.out) ?_ ?_
           go_must (omega)
           go_must (intro v1 wa hh
                    have n0wa := ((hh.1).cell_far ⟨w1.heap.size, 0, none⟩ (by omega) (by simp)).trans n02
                    have n1wa := ((hh.1).cell_far ⟨w1.heap.size, 1, none⟩ (by omega) (by simp)).trans n12
                    have hzwa := hh.1.size
                    have H1 := Lib.hid hh; clear hh))
        | (refine app_keep (by rfl) (.tmp 21) (.tmp 22) 23 (by rfl) rfl Mi.out Mz0.out Mz1.out Mz2.out (by first | exact H1.out | exact (H1.out).drew | exact (H1.out).drewN _) (by rfl) (by rfl) rfl (by exact HoB2.out) ?_ ?_
           go_must (omega)
           go_must (intro v2 wb hh
                    have n0wb := ((hh.1).cell_far ⟨w1.heap.size, 0, none⟩ (by omega) (by simp)).trans n02
                    have n1wb := ((hh.1).cell_far ⟨w1.heap.size, 1, none⟩ (by omega) (by simp)).trans n12
                    have hzwb := hh.1.size
                    have H2 := Lib.hid hh; clear hh))
        | (refine app_keep (by rfl) (.tmp 21) (.tmp 22) 23 (by rfl) rfl Mi.out Mz0.out Mz1.out Mz2.out (by first | exact H1.out.lay _ (news4 _ _ rfl _ _ _ _ _) | exact (H1.out.lay _ (news4 _ _ rfl _ _ _ _ _)).drew | exact (H1.out.lay _ (news4 _ _ rfl _ _ _ _ _)).drewN _) (by rfl) (by rfl) rfl (by exact HoB2.out) ?_ ?_
           go_must (omega)
           go_must (intro v2 wb hh
                    have n0wb := ((hh.1).cell_far ⟨w1.heap.size, 0, none⟩ (by omega) (by simp)).trans n02
                    have n1wb := ((hh.1).cell_far ⟨w1.heap.size, 1, none⟩ (by omega) (by simp)).trans n12
                    have hzwb := hh.1.size
                    have H2 := Lib.hid hh; clear hh))
        | (refine app_last (by rfl) (.tmp 23) (.tmp 26) 23 (by rfl) rfl Mi.out Mz0.out Mz1.out Mz2.out (ns := [(4, 0), (2, 0)]) (m := 2) (by first | exact H2.out | exact (H2.out).drew | exact (H2.out).drewN _) (by rfl) (by rfl) rfl ?_ ?_
           go_must (omega)
           go_must (intro v3 wc hg ho
                    have n0wc := ((hg).cell_far ⟨w1.heap.size, 0, none⟩ (by omega) (by simp)).trans n02
                    have n1wc := ((hg).cell_far ⟨w1.heap.size, 1, none⟩ (by omega) (by simp)).trans n12
                    have H3 := Lib.hid (And.intro hg ho); clear hg ho))
        | (refine app_last (by rfl) (.tmp 23) (.tmp 26) 23 (by rfl) rfl Mi.out Mz0.out Mz1.out Mz2.out (ns := [(4, 0), (2, 0)]) (m := 2) (by first | exact H2.out.lay _ (news4 _ _ rfl _ _ _ _ _) | exact (H2.out.lay _ (news4 _ _ rfl _ _ _ _ _)).drew | exact (H2.out.lay _ (news4 _ _ rfl _ _ _ _ _)).drewN _) (by rfl) (by rfl) rfl ?_ ?_
           go_must (omega)
           go_must (intro v3 wc hg ho
                    have n0wc := ((hg).cell_far ⟨w1.heap.size, 0, none⟩ (by omega) (by simp)).trans n02
                    have n1wc := ((hg).cell_far ⟨w1.heap.size, 1, none⟩ (by omega) (by simp)).trans n12
                    have H3 := Lib.hid (And.intro hg ho); clear hg ho))
        | fail)
    all_goals
      go_wp2
      go_meet
      case rel => exact ⟨H3.out.1, by have h := H3.out.2; simp only [Nat.zero_add, List.nil_append] at h; exact h⟩
  case rest =>
  rename World => w3
  obtain ⟨hG3, hX3⟩ := hcut
  have n03 := (hG3.cell_far ⟨w1.heap.size, 0, none⟩ (by omega) (by simp)).trans n02
  have n13 := (hG3.cell_far ⟨w1.heap.size, 1, none⟩ (by omega) (by simp)).trans n12
  have hs13 : w1.heap.size < w3.heap.size := by have := hG3.size; omega
  have hB3 : Below w.heap.size w w3 := hB2.trans ((below_none hG3).mono hB2.size)
  have HoA3 := Lib.hid (own_none HoA2.out hG3)
  have HoB3 := Lib.hid (own_none HoB2.out hG3)
  have HoX3 : Hid (w3.ownsRow w2.heap.size TM 2 u7 (xs ++ ys ++ [(4, (0 : Int)), (2, 0)]).length (mcells (xs ++ ys ++ [(4, 0), (2, 0)]))) := by
    unfold Hid
    rw [mcells_append, mcells_append, List.length_append, List.length_append]
    exact hX3
  clear hG3 hX3 n02 n12 hs12 HoA2 HoB2 hB2
  go_upto_region 6 with fail
  go_cut [8] from 9 (fun v wr => w3.grownBy wr none ∧ wr.ownsRow w3.heap.size TM 2 v (xs.length + 1) (mcells xs ++ mcells [(2, 0)]))
  case first =>
    go_region_held3 (fun w' => w'.cell? ⟨w1.heap.size, 0, none⟩ = some (.int .i64 2) ∧ w'.cell? ⟨w1.heap.size, 1, none⟩ = some (.int .i64 0))
      (first | (refine ⟨?_, ?_⟩ <;> first | go_keep | assumption) | assumption)
      (first
        | (refine app_keep (by rfl) (.tmp 28) (.tmp 29) 23 (by rfl) rfl Mi.out Mz0.out Mz1.out Mz2.out (by first | exact Have.start w3 (mcells [(2, 0)]) | exact (Have.start w3 (mcells [(2, 0)])).drew | exact (Have.start w3 (mcells [(2, 0)])).drewN _) (by rfl) (by rfl) rfl (by exact HoA3.out) ?_ ?_
           go_must (omega)
           go_must (intro v1 wa hh
                    have n0wa := ((hh.1).cell_far ⟨w1.heap.size, 0, none⟩ (by omega) (by simp)).trans n03
                    have n1wa := ((hh.1).cell_far ⟨w1.heap.size, 1, none⟩ (by omega) (by simp)).trans n13
                    have hzwa := hh.1.size
                    have H1 := Lib.hid hh; clear hh))
        | (refine app_keep (by rfl) (.tmp 28) (.tmp 29) 23 (by rfl) rfl Mi.out Mz0.out Mz1.out Mz2.out (by first | exact Have.laid_next w3 (mcells [(2, 0)]) _ (news2 _ _ rfl _ _ _) | exact (Have.laid_next w3 (mcells [(2, 0)]) _ (news2 _ _ rfl _ _ _)).drew | exact (Have.laid_next w3 (mcells [(2, 0)]) _ (news2 _ _ rfl _ _ _)).drewN _) (by rfl) (by rfl) rfl (by exact HoA3.out) ?_ ?_
           go_must (omega)
           go_must (intro v1 wa hh
                    have n0wa := ((hh.1).cell_far ⟨w1.heap.size, 0, none⟩ (by omega) (by simp)).trans n03
                    have n1wa := ((hh.1).cell_far ⟨w1.heap.size, 1, none⟩ (by omega) (by simp)).trans n13
                    have hzwa := hh.1.size
                    have H1 := Lib.hid hh; clear hh))
        | (refine app_keep (by rfl) (.tmp 28) (.tmp 29) 23 (by rfl) rfl Mi.out Mz0.out Mz1.out Mz2.out (by first | exact Have.laid_first w3 (mcells [(2, 0)]) _ (news2 _ _ rfl _ _ _) | exact (Have.laid_first w3 (mcells [(2, 0)]) _ (news2 _ _ rfl _ _ _)).drew | exact (Have.laid_first w3 (mcells [(2, 0)]) _ (news2 _ _ rfl _ _ _)).drewN _) (by rfl) (by rfl) rfl (by exact HoA3.out) ?_ ?_
           go_must (omega)
           go_must (intro v1 wa hh
                    have n0wa := ((hh.1).cell_far ⟨w1.heap.size, 0, none⟩ (by omega) (by simp)).trans n03
                    have n1wa := ((hh.1).cell_far ⟨w1.heap.size, 1, none⟩ (by omega) (by simp)).trans n13
                    have hzwa := hh.1.size
                    have H1 := Lib.hid hh; clear hh))
        | (refine app_last (by rfl) (.tmp 30) (.tmp 32) 23 (by rfl) rfl Mi.out Mz0.out Mz1.out Mz2.out (ns := [(2, 0)]) (m := 1) (by first | exact H1.out | exact (H1.out).drew | exact (H1.out).drewN _) (by rfl) (by rfl) rfl ?_ ?_
           go_must (omega)
           go_must (intro v3 wc hg ho
                    have n0wc := ((hg).cell_far ⟨w1.heap.size, 0, none⟩ (by omega) (by simp)).trans n03
                    have n1wc := ((hg).cell_far ⟨w1.heap.size, 1, none⟩ (by omega) (by simp)).trans n13
                    have H3 := Lib.hid (And.intro hg ho); clear hg ho))
        | (refine app_last (by rfl) (.tmp 30) (.tmp 32) 23 (by rfl) rfl Mi.out Mz0.out Mz1.out Mz2.out (ns := [(2, 0)]) (m := 1) (by first | exact H1.out.lay _ (news2 _ _ rfl _ _ _) | exact (H1.out.lay _ (news2 _ _ rfl _ _ _)).drew | exact (H1.out.lay _ (news2 _ _ rfl _ _ _)).drewN _) (by rfl) (by rfl) rfl ?_ ?_
           go_must (omega)
           go_must (intro v3 wc hg ho
                    have n0wc := ((hg).cell_far ⟨w1.heap.size, 0, none⟩ (by omega) (by simp)).trans n03
                    have n1wc := ((hg).cell_far ⟨w1.heap.size, 1, none⟩ (by omega) (by simp)).trans n13
                    have H3 := Lib.hid (And.intro hg ho); clear hg ho))
        | fail)
    all_goals
      go_wp2
      go_meet
      case rel => exact ⟨H3.out.1, by have h := H3.out.2; simp only [Nat.zero_add, List.nil_append] at h; exact h⟩
  case rest =>
  rename World => w4
  obtain ⟨hG4, hY4⟩ := hcut
  have n04 := (hG4.cell_far ⟨w1.heap.size, 0, none⟩ (by omega) (by simp)).trans n03
  have n14 := (hG4.cell_far ⟨w1.heap.size, 1, none⟩ (by omega) (by simp)).trans n13
  have Hy : Hid (Have w3 none (mcells [(2, 0), (3, 0)]) w4 u8 (xs.length + 1) (mcells xs ++ mcells [(2, 0)])) := ⟨hG4, hY4, fun b hb => by cases hb⟩
  clear hG4 hY4
  go_upto_region 7 with fail
  go_cut [8] from 9 (fun v wr => w3.grownBy wr none ∧ wr.ownsRow w3.heap.size TM 2 v (xs.length + 1 + ys.length + 2) (mcells xs ++ mcells [(2, 0)] ++ mcells ys ++ mcells [(2, 0), (3, 0)]))
  case first =>
    go_region_held3 (fun w' => w'.cell? ⟨w1.heap.size, 0, none⟩ = some (.int .i64 2) ∧ w'.cell? ⟨w1.heap.size, 1, none⟩ = some (.int .i64 0))
      (first | (refine ⟨?_, ?_⟩ <;> first | go_keep | assumption) | assumption)
      (first
        | (refine app_keep (by rfl) (.tmp 34) (.tmp 35) 23 (by rfl) rfl Mi.out Mz0.out Mz1.out Mz2.out (by first | exact Hy.out | exact (Hy.out).drew | exact (Hy.out).drewN _) (by rfl) (by rfl) rfl (by exact HoB3.out) ?_ ?_
           go_must (omega)
           go_must (intro v1 wa hh
                    have n0wa := ((hh.1).cell_far ⟨w1.heap.size, 0, none⟩ (by omega) (by simp)).trans n03
                    have n1wa := ((hh.1).cell_far ⟨w1.heap.size, 1, none⟩ (by omega) (by simp)).trans n13
                    have hzwa := hh.1.size
                    have H1 := Lib.hid hh; clear hh))
        | (refine app_keep (by rfl) (.tmp 34) (.tmp 35) 23 (by rfl) rfl Mi.out Mz0.out Mz1.out Mz2.out (by first | exact Hy.out.lay _ (news4 _ _ rfl _ _ _ _ _) | exact (Hy.out.lay _ (news4 _ _ rfl _ _ _ _ _)).drew | exact (Hy.out.lay _ (news4 _ _ rfl _ _ _ _ _)).drewN _) (by rfl) (by rfl) rfl (by exact HoB3.out) ?_ ?_
           go_must (omega)
           go_must (intro v1 wa hh
                    have n0wa := ((hh.1).cell_far ⟨w1.heap.size, 0, none⟩ (by omega) (by simp)).trans n03
                    have n1wa := ((hh.1).cell_far ⟨w1.heap.size, 1, none⟩ (by omega) (by simp)).trans n13
                    have hzwa := hh.1.size
                    have H1 := Lib.hid hh; clear hh))
        | (refine app_last (by rfl) (.tmp 36) (.tmp 39) 23 (by rfl) rfl Mi.out Mz0.out Mz1.out Mz2.out (ns := [(2, 0), (3, 0)]) (m := 2) (by first | exact H1.out | exact (H1.out).drew | exact (H1.out).drewN _) (by rfl) (by rfl) rfl ?_ ?_
           go_must (omega)
           go_must (intro v3 wc hg ho
                    have n0wc := ((hg).cell_far ⟨w1.heap.size, 0, none⟩ (by omega) (by simp)).trans n03
                    have n1wc := ((hg).cell_far ⟨w1.heap.size, 1, none⟩ (by omega) (by simp)).trans n13
                    have H3 := Lib.hid (And.intro hg ho); clear hg ho))
        | (refine app_last (by rfl) (.tmp 36) (.tmp 39) 23 (by rfl) rfl Mi.out Mz0.out Mz1.out Mz2.out (ns := [(2, 0), (3, 0)]) (m := 2) (by first | exact H1.out.lay _ (news4 _ _ rfl _ _ _ _ _) | exact (H1.out.lay _ (news4 _ _ rfl _ _ _ _ _)).drew | exact (H1.out.lay _ (news4 _ _ rfl _ _ _ _ _)).drewN _) (by rfl) (by rfl) rfl ?_ ?_
           go_must (omega)
           go_must (intro v3 wc hg ho
                    have n0wc := ((hg).cell_far ⟨w1.heap.size, 0, none⟩ (by omega) (by simp)).trans n03
                    have n1wc := ((hg).cell_far ⟨w1.heap.size, 1, none⟩ (by omega) (by simp)).trans n13
                    have H3 := Lib.hid (And.intro hg ho); clear hg ho))
        | fail)
    all_goals
      go_wp2
      go_meet
      case rel => exact ⟨H3.out.1, H3.out.2⟩
  case rest =>
  rename World => w5
  obtain ⟨hG5, hY5⟩ := hcut
  have hB4 : Below w.heap.size w w5 := hB3.trans ((below_none hG5).mono hB3.size)
  have HoA4 := Lib.hid (own_none HoA3.out hG5)
  have HoB4 := Lib.hid (own_none HoB3.out hG5)
  have HoX4 := Lib.hid (own_none HoX3.out hG5)
  have HoY4 : Hid (w5.ownsRow w3.heap.size TM 2 u8 (xs ++ [(2, (0 : Int))] ++ ys ++ [(2, 0), (3, 0)]).length (mcells (xs ++ [(2, 0)] ++ ys ++ [(2, 0), (3, 0)]))) := by
    unfold Hid
    rw [mcells_append, mcells_append, mcells_append, List.length_append, List.length_append, List.length_append]
    exact hY5
  clear hG5 hY5 Hy n03 n13 n04 n14 hs13 HoA3 HoB3 HoX3 hB3
  have HiX : Hid (I64s (xs ++ ys ++ [(4, (0 : Int)), (2, 0)])) := I64s_append (I64s_append HiA.out HiB.out) (I64s_append (xs := [(4, 0)]) (ys := [(2, 0)]) (I64s_one (k := 4) (x := 0) (I64_small (by omega) (by omega)) (I64_small (by omega) (by omega))) (I64s_one (k := 2) (x := 0) (I64_small (by omega) (by omega)) (I64_small (by omega) (by omega))))
  have HiY : Hid (I64s (xs ++ [(2, (0 : Int))] ++ ys ++ [(2, 0), (3, 0)])) := I64s_append (I64s_append (I64s_append HiA.out (I64s_one (k := 2) (x := 0) (I64_small (by omega) (by omega)) (I64_small (by omega) (by omega)))) HiB.out) (I64s_append (xs := [(2, 0)]) (ys := [(3, 0)]) (I64s_one (k := 2) (x := 0) (I64_small (by omega) (by omega)) (I64_small (by omega) (by omega))) (I64s_one (k := 3) (x := 0) (I64_small (by omega) (by omega)) (I64_small (by omega) (by omega))))
  have Hne : Hid (termOk p xs = true → termOk p ys = true → termOk p (xs ++ ys ++ [(4, 0), (2, 0)]) = true → termOk p (xs ++ [(2, 0)] ++ ys ++ [(2, 0), (3, 0)]) = true → sameV p (xs ++ ys ++ [(4, 0), (2, 0)]) (xs ++ [(2, 0)] ++ ys ++ [(2, 0), (3, 0)]) = true) := by
    have e1 : xs ++ ys ++ [((4 : Int), (0 : Int)), (2, 0)] = xs ++ ys ++ [(4, 0)] ++ [(2, 0)] := by simp
    have e2 : xs ++ [((2 : Int), (0 : Int))] ++ ys ++ [(2, 0), (3, 0)] = xs ++ [(2, 0)] ++ (ys ++ [(2, 0)]) ++ [(3, 0)] := by simp
    unfold Hid
    rw [e1, e2]
    exact not_either
  go_wp2_with fail
  refine (specTermOk _ xs _ _ _ (RdMarks.of_own HoA4.out HiA.out)).mono ?_
  rintro e w' ⟨rfl, rfl⟩
  have Hx := Lib.hid (specTermOk p (xs ++ ys ++ [(4, 0), (2, 0)]) _ _ _ (RdMarks.of_own HoX4.out HiX.out))
  have Hy := Lib.hid (specTermOk p (xs ++ [(2, 0)] ++ ys ++ [(2, 0), (3, 0)]) _ _ _ (RdMarks.of_own HoY4.out HiY.out))
  have Hss := Lib.hid (implSameOk p _ _ _ _ _ _ _ (RdMarks.of_own HoX4.out HiX.out) (RdMarks.of_own HoY4.out HiY.out) (Nat.le_refl _) (Nat.le_refl _))
  generalize sameV p (xs ++ ys ++ [(4, 0), (2, 0)]) (xs ++ [(2, 0)] ++ ys ++ [(2, 0), (3, 0)]) = T at *
  generalize termOk p (xs ++ ys ++ [(4, 0), (2, 0)]) = tx at *
  generalize termOk p (xs ++ [(2, 0)] ++ ys ++ [(2, 0), (3, 0)]) = ty at *
  cases hx : termOk p xs with
  | false =>
    clear hx
    go_wp2_with fail
    refine (alive _).mono ?_
    rintro e w' ⟨rfl, rfl⟩
    go_wp2
    go_ret
    exact ⟨rfl, hB4⟩
  | true =>
  go_wp2_with fail
  refine (specTermOk _ ys _ _ _ (RdMarks.of_own HoB4.out HiB.out)).mono ?_
  rintro e w' ⟨rfl, rfl⟩
  cases hy : termOk p ys with
  | false =>
    clear hy hx
    go_wp2_with fail
    refine (alive _).mono ?_
    rintro e w' ⟨rfl, rfl⟩
    go_wp2
    go_ret
    exact ⟨rfl, hB4⟩
  | true =>
  have HT := Lib.hid (Hne.out hx hy)
  clear hx hy
  go_wp2_with fail
  refine Hx.out.mono ?_
  rintro e w' ⟨rfl, rfl⟩
  cases tx with
  | false =>
    go_wp2_with fail
    refine (alive _).mono ?_
    rintro e w' ⟨rfl, rfl⟩
    go_wp2
    go_ret
    exact ⟨rfl, hB4⟩
  | true =>
  go_wp2_with fail
  refine Hy.out.mono ?_
  rintro e w' ⟨rfl, rfl⟩
  cases ty with
  | false =>
    go_wp2_with fail
    refine (alive _).mono ?_
    rintro e w' ⟨rfl, rfl⟩
    go_wp2
    go_ret
    exact ⟨rfl, hB4⟩
  | true =>
  have hT : T = true := HT.out (by first | rfl | trivial | simp) (by first | rfl | trivial | simp)
  subst hT
  go_wp2_with fail
  refine (alive _).mono ?_
  rintro e w' ⟨rfl, rfl⟩
  go_wp2_with fail
  refine Hss.out.mono ?_
  rintro e w5 ⟨rfl, hb5⟩
  have hB5 : Below w.heap.size w w5 := hB4.trans (hb5.mono hB4.size)
  clear hb5
  go_wp2
  go_ret
  exact ⟨rfl, hB5⟩

set_option maxRecDepth 100000 in
theorem lifted (os : Os) (started : os.Started) (H : Type) (enc : TypeId × Value → H) :
    ReturnsInHanded {} Try.checked os 10 .any (Rows.fnNotEitherSpec.pre6 enc Try.prog Try.f10 Rows.fnNotEitherRow.domain false) (Rows.fnNotEitherSpec.post enc Try.prog Try.f10 false true false false) := by
  refine returnsInHanded_of_change (C := Try.checked) Try.own started (by kernel_rfl) Try.func10
    (ChangeSpec.witness6 (enc := enc) (C := Try.checked) false ⟨#[], #[.slice none 0 0], []⟩ 8 (by kernel_rfl) (by kernel_rfl) (by kernel_rfl) (by kernel_rfl)) ?_
  intro W base args ds gs before hval0 hW hcnd _
  have hval : ∀ (j : Nat) t v, Try.f10.params[j]? = some t → args[j]? = some v → Value.okWide Try.prog W .any base t v := hval0
  have hW' := hW
  obtain ⟨p, q, hA0, hV, rfl, hfz, hnd⟩ := hW
  have hA : DataW.TrodAll enc Try.prog W 0 (fun _ => true) true Try.f10.params.toList args.toList ds p := hA0
  rw [Try.params10] at hA hval
  obtain ⟨v0, vs0, d0, ds0, p0, q0, hargs, rfl, rfl, h0, r0⟩ := trodAll_cons hA
  obtain ⟨rfl, rfl, rfl⟩ := trodAll_nil r0
  obtain rfl : args = #[v0] := by cases args; simp_all
  obtain ⟨rfl, rfl⟩ := trodVars_none hV
  obtain ⟨a0, len0, cap0, rfl⟩ := okWide_slice Try.underlying22 (hval 0 22 v0 rfl rfl)
  have k0 := h0
  have lt0 : ∀ x ∈ p0, x.block < W.heap.size := by obtain ⟨m, hm⟩ := k0; exact DataW.trod_lt m _ _ _ hm
  obtain ⟨z0, w0⟩ : ∃ zs, IsRow .u8 W a0 len0 cap0 zs := by
    obtain ⟨fuel, hf⟩ := h0
    rcases open_ints Try.underlying22 Try.underlying5 (by kernel_rfl) hf with ⟨hcs, _⟩ | ⟨x, l, c, zs, hcs, _, hl, hm, hz, _, hcell, hwz⟩
    · simp [Value.cells] at hcs
      obtain ⟨rfl, rfl, rfl⟩ := hcs
      exact ⟨[], .inl ⟨rfl, rfl, rfl, rfl⟩⟩
    · simp [Value.cells] at hcs
      obtain ⟨rfl, rfl, rfl⟩ := hcs
      exact ⟨zs, .inr ⟨_, rfl, hl, hm, by simpa using hz, hcell, hwz⟩⟩
  clear hA0 hval0
  refine (walk _ _ W (RdBytes.of_row w0)).mono fun e W' ⟨he, bel⟩ => ?_
  subst he
  exact ⟨_, rfl, _, _, _, [], _, [], hW', trodAll_mk1 (shut_bool Try.underlying4 _), (trodAll_cons_mk (Below.trod Try.laidOut (by kernel_rfl) (of_decide_eq_true (by kernel_rfl)) k0 bel lt0) trodAll_mk0), rfl, bel.frame _, fun h => by cases h⟩

theorem closed : joinedFacts Try.pinned.checked.prog 10 Try.f10 Rows.fnNotEitherSpec Rows.fnNotEitherRow = true := by
  unfold joinedFacts
  exact (and_tt (and_tt (and_tt (and_tt (and_tt (and_tt (and_tt (and_tt (and_tt (and_tt (and_tt (and_tt (and_tt (and_tt (and_tt (and_tt (and_tt (and_tt (and_tt (and_tt (and_tt (and_tt (and_tt (and_tt (and_tt (and_tt (and_tt (and_tt (and_tt (and_tt (and_tt (by kernel_rfl) (by kernel_rfl)) (by kernel_rfl)) (by kernel_rfl)) (by kernel_rfl)) (by kernel_rfl)) (by kernel_rfl)) (by kernel_rfl)) (by kernel_rfl)) (by kernel_rfl)) (by kernel_rfl)) (by kernel_rfl)) (by kernel_rfl)) (by kernel_rfl)) (by kernel_rfl)) (by kernel_rfl)) (by kernel_rfl)) (by kernel_rfl)) (by kernel_rfl)) (by kernel_rfl)) (by kernel_rfl)) (by kernel_rfl)) (by kernel_rfl)) (by kernel_rfl)) (by kernel_rfl)) Try.mayEnter0) (lifted_tt Try.lifts0 rfl)) (make_tt Try.make0 rfl)) (by kernel_rfl)) (by kernel_rfl)) (by kernel_rfl)) (by kernel_rfl))
theorem over : Rows.fnNotEitherRow.holds Try.pinned (OpenSpec.ofChange Rows.fnNotEitherSpec) :=
  OpenClaim.holds_of_wide 10 Try.f10 rfl rfl rfl rfl rfl rfl rfl ⟨rfl, rfl, rfl, rfl, rfl⟩ rfl rfl rfl rfl rfl (by kernel_rfl) Try.func10 closed
    (of_decide_eq_true (by kernel_rfl)) (by unfold Func.isWrapper; first | (rw [if_pos (by decide +kernel)]; kernel_rfl) | (rw [if_neg (by decide +kernel)]; exact ⟨rfl, rfl⟩))
    (fun os started H enc _ => lifted os started H enc)

theorem proved : Rows.FnNotEitherSaid := over
end Go.Proofs.Ytiakelhpmiffdaa.fnNotEither


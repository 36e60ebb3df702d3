/- Texts of a proof, merged: ClaimDs, MadeM. -/
import Derived.Test.YthiabicleedleaaMerged13
import Derived.Test.YthiabicleedleaaMerged15
import Derived.Test.YthiabicleedleaaMerged11
import Derived.Test.YthiabicleedleaaMerged6
/- Contract of the reference's denied claims. -/
namespace Go.Proofs.Ythiabicleedleaa
open Go.RowKit Go.Joins
attribute [local irreducible] holds tabN tabV holdsV sameV followsV alwaysV matterV claimOk mayT mayV ctabV ctabN storyV storyOk storyN storyT ctermV ctermL denyV denyOk
/-- an append of marks that are read, wherever they lie -/
theorem append_rd2 {w : World} {base B n : Nat} {v u : Value} {cs : List Value} {ms : List (Int × Int)} {im : TypeInfo} (hmi : Try.prog.info? TM = some im) (hz : im.zero = some (.agg #[.int .i64 0, .int .i64 0])) (hsize : im.size = 2) (hby : im.bytes = 16)
    (hown : w.ownsRow base TM 2 v n cs) (hr : RdMarks w B u ms) (hl : n + ms.length ≤ 10000000) (hbase : base ≤ w.heap.size) :
    ∃ v' w', (Builtin.append_ #[TS, TS] TS #[v, u]).run Try.prog w = .ok v' w' ∧ w'.ownsRow base TM 2 v' (n + ms.length) (cs ++ mcells ms) ∧ w.grownBy w' v.ownBlock ∧ (v'.ownBlock = v.ownBlock ∨ v'.ownBlock = some w.heap.size) := by
  have hr0 := hr
  obtain ⟨ao, cap, rfl, hlc, hcm, hi, hc⟩ := hr
  cases ao with
  | none =>
    have h0 : ms = [] := by
      cases ms with
      | nil => rfl
      | cons m r =>
        obtain ⟨_, _, he, _⟩ := hc 0 (by simp)
        cases he
    subst h0
    refine ⟨v, w, run_append_own_none w base TS TS TM im 2 Try.underlying31 hmi hsize v n cs hown cap (by unfold maxLen; omega), by simpa [mcells] using hown, World.grownBy.refl _ _, .inl rfl⟩
  | some a =>
    have hnews : ∀ (j : Nat) (x : Value), (mcells ms)[j]? = some x → w.cell? (a.add j) = some x := by
      cases ms with
      | nil => intro j x hj; simp [mcells] at hj
      | cons m r =>
        obtain ⟨b, off, he, _⟩ := hc 0 (by simp)
        cases he
        exact hr0.cells
    obtain ⟨v', w', h1, h2, h3, _, h5⟩ := run_append_own_at (P := Try.prog) w base TS TS TM im (.agg #[.int .i64 0, .int .i64 0]) 2 16 Try.underlying31 hmi hz hsize hby rfl (by omega) v n cs hown a ms.length cap (mcells ms) (mcells_length _) hnews (mcells_one _) (by unfold maxLen; omega) (by omega) hbase
    exact ⟨v', w', h1, h2, h3, h5⟩
theorem size_allocD (w : World) (o : Obj) : (w.alloc o).heap.size = w.heap.size + 1 := by simp
/-- ahead of the row: what lies already -/
def Pre (w0 : World) (at_ av : Option Nat) (ns : List Value) (w : World) : Prop :=
  w0.grownBy w none ∧ (∀ b, at_ = some b → w0.heap.size ≤ b ∧ b < w.heap.size ∧ ∀ (j : Nat) (u : Value), ns[j]? = some u → w.cell? ((⟨b, 0, none⟩ : Addr).add j) = some u) ∧ ∀ a, av = some a → w0.heap.size ≤ a ∧ Box w a (.int .i64 0) (.slice none 0 0)
theorem Pre.refl (w0 : World) (ns : List Value) : Pre w0 none none ns w0 := ⟨World.grownBy.refl _ _, fun b hb => (by cases hb), fun b hb => (by cases hb)⟩
theorem Pre.layA {w0 w : World} {at_ : Option Nat} {ns : List Value} (h : Pre w0 at_ none ns w) (T : TypeId) : Pre w0 at_ (some w.heap.size) ns (w.alloc (.cells #[.int .i64 0, .slice none 0 0] T)) := by
  obtain ⟨_, e, hx, _, _⟩ := Box.new w (.int .i64 0) (.slice none 0 0) T
  refine ⟨only_alloc h.1 _, fun b hb => ?_, fun a ha => by cases ha; exact ⟨h.1.size, by rw [← e]; exact hx⟩⟩
  obtain ⟨h1, h2, h3⟩ := h.2.1 b hb
  exact ⟨h1, by simp; omega, cells_alloc h3 h2 _⟩
theorem Pre.layR {w0 w : World} {av : Option Nat} {ns : List Value} (h : Pre w0 none av ns w) (o : Obj) (hn : ∀ (j : Nat) (u : Value), ns[j]? = some u → (w.alloc o).cell? ((⟨w.heap.size, 0, none⟩ : Addr).add j) = some u) : Pre w0 (some w.heap.size) av ns (w.alloc o) :=
  ⟨only_alloc h.1 _, fun b hb => by cases hb; exact ⟨h.1.size, by simp, hn⟩, fun a ha => ⟨(h.2.2 a ha).1, (h.2.2 a ha).2.alloc o⟩⟩
/-- in the midst of the region: the row grown so far, the block of the marks and that of the variable, if they lie already -/
def HaveB (w0 : World) (at_ av : Option Nat) (ns : List Value) (w : World) (v : Value) (n : Nat) (cs : List Value) : Prop :=
  Have w0 at_ ns w v n cs ∧ ∀ a, av = some a → w0.heap.size ≤ a ∧ Box w a (.int .i64 0) (.slice none 0 0) ∧ v.ownBlock ≠ some a
theorem Pre.start {w0 w : World} {at_ av : Option Nat} {ns : List Value} (h : Pre w0 at_ av ns w) : HaveB w0 at_ av ns (w.alloc (.cells #[] TM)) (.slice (some ⟨w.heap.size, 0, none⟩) 0 0) 0 [] := by
  refine ⟨⟨only_alloc h.1 _, World.ownsRow_made w #[] 0 h.1.size (Nat.zero_le _) rfl, fun b hb => ?_⟩, fun a ha => ?_⟩
  · obtain ⟨h1, h2, h3⟩ := h.2.1 b hb
    exact ⟨h1, by simp; omega, by simp [Value.ownBlock]; omega, cells_alloc h3 h2 _⟩
  · obtain ⟨h1, h2⟩ := h.2.2 a ha
    have := h2.2.2.2.2
    exact ⟨h1, h2.alloc _, by simp [Value.ownBlock]; omega⟩
theorem Pre.startg {w0 w : World} {at_ av : Option Nat} {ns : List Value} (h : Pre w0 at_ av ns w) (g : Nat) (hg : g = w.heap.size) : HaveB w0 at_ av ns (w.alloc (.cells #[] TM)) (.slice (some ⟨g, 0, none⟩) 0 0) 0 [] := by
  subst hg
  exact h.start
theorem HaveB.layA {w0 w : World} {at_ : Option Nat} {ns : List Value} {v : Value} {n : Nat} {cs : List Value} (h : HaveB w0 at_ none ns w v n cs) (T : TypeId) : HaveB w0 at_ (some w.heap.size) ns (w.alloc (.cells #[.int .i64 0, .slice none 0 0] T)) v n cs := by
  obtain ⟨_, e, hx, _, _⟩ := Box.new w (.int .i64 0) (.slice none 0 0) T
  refine ⟨⟨only_alloc h.1.1 _, h.1.2.1.alloc _, fun b hb => ?_⟩, fun a ha => ?_⟩
  · obtain ⟨h1, h2, h3, h4⟩ := h.1.2.2 b hb
    exact ⟨h1, by simp; omega, h3, cells_alloc h4 h2 _⟩
  · cases ha
    refine ⟨h.1.1.size, by rw [← e]; exact hx, fun e => ?_⟩
    have := (h.1.2.1.lt _ e).2
    omega
theorem HaveB.layR {w0 w : World} {av : Option Nat} {ns : List Value} {v : Value} {n : Nat} {cs : List Value} (h : HaveB w0 none av ns w v n cs) (o : Obj) (hn : ∀ (j : Nat) (u : Value), ns[j]? = some u → (w.alloc o).cell? ((⟨w.heap.size, 0, none⟩ : Addr).add j) = some u) : HaveB w0 (some w.heap.size) av ns (w.alloc o) v n cs :=
  ⟨h.1.lay o hn, fun a ha => ⟨(h.2 a ha).1, (h.2 a ha).2.1.alloc o, (h.2 a ha).2.2⟩⟩
theorem HaveB.layRg {w0 w : World} {av : Option Nat} {ns : List Value} {v : Value} {n : Nat} {cs : List Value} (h : HaveB w0 none av ns w v n cs) (o : Obj) (g : Nat) (hg : g = w.heap.size) (hn : ∀ (j : Nat) (u : Value), ns[j]? = some u → (w.alloc o).cell? ((⟨g, 0, none⟩ : Addr).add j) = some u) : HaveB w0 (some g) av ns (w.alloc o) v n cs := by
  subst hg
  exact h.layR o hn
theorem Box.drewN {w : World} {g : Nat} {a b : Value} (h : Box w g a b) (k : Nat) : Box (w.drewN k) g a b := h
theorem HaveB.drewN {w0 w : World} {at_ av : Option Nat} {ns : List Value} {v : Value} {n : Nat} {cs : List Value} (h : HaveB w0 at_ av ns w v n cs) (k : Nat) : HaveB w0 at_ av ns (w.drewN k) v n cs :=
  ⟨h.1.drewN k, fun a ha => ⟨(h.2 a ha).1, (h.2 a ha).2.1.drewN k, (h.2 a ha).2.2⟩⟩
theorem HaveB.drew {w0 w : World} {at_ av : Option Nat} {ns : List Value} {v : Value} {n : Nat} {cs : List Value} (h : HaveB w0 at_ av ns w v n cs) : HaveB w0 at_ av ns w.drew v n cs := h.drewN 1
/-- behind an append to the row -/
theorem HaveB.grown {w0 w w' : World} {at_ av : Option Nat} {ns : List Value} {v v' : Value} {n n' : Nat} {cs cs' : List Value} (h : HaveB w0 at_ av ns w v n cs) (h2 : w'.ownsRow w0.heap.size TM 2 v' n' cs') (h3 : w.grownBy w' v.ownBlock) (h5 : v'.ownBlock = v.ownBlock ∨ v'.ownBlock = some w.heap.size) : HaveB w0 at_ av ns w' v' n' cs' := by
  have hne : ∀ b, b < w.heap.size → v.ownBlock ≠ some b → v'.ownBlock ≠ some b := fun b hb h8 e => by
    rcases h5 with h5 | h5
    · exact h8 (by rw [← h5]; exact e)
    · rw [h5] at e; cases e; omega
  refine ⟨⟨grown_own h.1.1 h3 (fun k hk => (h.1.2.1.lt k hk).1), h2, fun b hb => ?_⟩, fun a ha => ?_⟩
  · obtain ⟨h6, h7, h8, h9⟩ := h.1.2.2 b hb
    exact ⟨h6, by have := h3.size; omega, hne b h7 h8, fun j u hj => (h3.cell_far ((⟨b, 0, none⟩ : Addr).add j) (by rw [block_add]; exact h7) (by rw [block_add]; exact fun e => h8 e.symm)).trans (h9 j u hj)⟩
  · obtain ⟨h6, h7, h8⟩ := h.2 a ha
    exact ⟨h6, h7.grown h3 h8, hne a h7.2.2.2.2 h8⟩
/-- an append of marks that came in -/
theorem app_keepB {ops : Array Oper} {o : Oper} {a : Act} {w : World} {K : Act → World → Prop} {Q : Exit → Act → World → Prop} {E : Prop} {im : TypeInfo} (hgd : o.guard = none) (s x : Operand)
    (ho : o.op = .call { callee := .builtin .append, args := #[s, x], argTypes := #[TS, TS] }) (hty : o.type = TS) (hi : Try.prog.info? TM = some im) (hz : im.zero = some (.agg #[.int .i64 0, .int .i64 0])) (hsize : im.size = 2) (hby : im.bytes = 16)
    {w0 : World} {at_ av : Option Nat} {ns : List Value} {v u : Value} {n B : Nat} {cs : List Value} {ms : List (Int × Int)} (hs : a.eval s = v) (hx : a.eval x = u) (hr : RdMarks w0 B u ms) (hB : B ≤ w0.heap.size) (hl : n + ms.length ≤ 10000000)
    (h : HaveB w0 at_ av ns w v n cs) (hK : ∀ v' w', HaveB w0 at_ av ns w' v' (n + ms.length) (cs ++ mcells ms) → K (a.put o.dst v') w') : if Region.wanted o (yielded ops a.tmps) = true then Oper.wp Try.prog o a w K Q else E := by
  have hw : Region.wanted o (yielded ops a.tmps) = true := by simp [Region.wanted, hgd]
  rw [if_pos hw]
  obtain ⟨v', w', hrun, h2, h3, h5⟩ := append_rd2 hi hz hsize hby h.1.2.1 (hr.below (w' := w) fun k hk => h.1.1.block k (by omega) (by simp)) hl h.1.1.size
  unfold Oper.wp execOp
  simp only [ho, hty, resolve, invoke, builtin, Sem.run_bind, Sem.run_pure, Result.andThen_ok, List.map_toArray, List.map_cons, List.map_nil, hs, hx, hrun]
  exact hK v' w' (h.grown h2 h3 h5)
/-- the append of the mark -/
theorem app_lastB {ops : Array Oper} {o : Oper} {a : Act} {w : World} {K : Act → World → Prop} {Q : Exit → Act → World → Prop} {E : Prop} {im : TypeInfo} (hgd : o.guard = none) (s x : Operand)
    (ho : o.op = .call { callee := .builtin .append, args := #[s, x], argTypes := #[TS, TS] }) (_hty : o.type = TS) (hi : Try.prog.info? TM = some im) (hz : im.zero = some (.agg #[.int .i64 0, .int .i64 0])) (hsize : im.size = 2) (hby : im.bytes = 16)
    {w0 : World} {av : Option Nat} {b m c : Nat} {ns : List (Int × Int)} {v : Value} {n : Nat} {cs : List Value} (hs : a.eval s = v) (hx : a.eval x = .slice (some ⟨b, 0, none⟩) m c) (hm : ns.length = m) (hl : n + m ≤ 10000000)
    (h : HaveB w0 (some b) av (mcells ns) w v n cs) (hK : ∀ ao cp w', HaveB w0 none av [] w' (.slice ao (n + m) cp) (n + m) (cs ++ mcells ns) → K (a.put o.dst (.slice ao (n + m) cp)) w') : if Region.wanted o (yielded ops a.tmps) = true then Oper.wp Try.prog o a w K Q else E := by
  have hw : Region.wanted o (yielded ops a.tmps) = true := by simp [Region.wanted, hgd]
  rw [if_pos hw]
  obtain ⟨_, _, _, h9⟩ := h.1.2.2 b rfl
  obtain ⟨v', w', hrun, h2, h3, _, h5⟩ := run_append_own_at (P := Try.prog) w w0.heap.size TS o.type TM im (.agg #[.int .i64 0, .int .i64 0]) 2 16 Try.underlying31 hi hz hsize hby rfl (by omega) v n cs h.1.2.1 ⟨b, 0, none⟩ m c (mcells ns) (by rw [mcells_length, hm]) h9 (mcells_one _) (by unfold maxLen; omega) (by omega) h.1.1.size
  obtain ⟨ao, cp, rfl⟩ := own_len h2
  unfold Oper.wp execOp
  simp only [ho, resolve, invoke, builtin, Sem.run_bind, Sem.run_pure, Result.andThen_ok, List.map_toArray, List.map_cons, List.map_nil, hs, hx, hrun]
  have hh := h.grown h2 h3 h5
  exact hK ao cp w' ⟨⟨hh.1.1, hh.1.2.1, fun q hq => by cases hq⟩, hh.2⟩
/-- the variable laid: what lies behind its store -/
theorem HaveB.fin {w0 w w6 : World} {a n : Nat} {v : Value} {cs : List Value} (h : HaveB w0 none (some a) [] w v n cs) (hg : w.grownBy w6 (some a)) : w6.ownsRow w0.heap.size TM 2 v n cs ∧ Below w0.heap.size w0 w6 := by
  obtain ⟨h1, _, h3⟩ := h.2 a rfl
  exact ⟨h.1.2.1.kept hg (.inr h3), below_rowD (below_none h.1.1) hg (fun q hq => by cases hq; exact h1)⟩
set_option maxRecDepth 100000 in
set_option maxHeartbeats 8000000 in
theorem specDenyClaim (p k : Int) (ms : List (Int × Int)) (B : Nat) (u : Value) (w : World) (hr : RdMarks w B u ms) (hB : B ≤ w.heap.size) (hl : ms.length ≤ 9000000) :
    Calls Try.prog 43 #[.int .i64 p, .agg #[.int .i64 k, u]] w (ClaimOut (denyV p (k, ms)) (denyOk p (k, ms)) w) := by
  obtain ⟨im, hmi, hmz0, hmz1, hmz2⟩ := info_parts Try.infoM
  have Mi := Lib.hid hmi; clear hmi
  have Mz0 := Lib.hid hmz0; clear hmz0
  have Mz1 := Lib.hid hmz1; clear hmz1
  have Mz2 := Lib.hid hmz2; clear hmz2
  obtain ⟨w2, hw2, hx2, hy2, hb2, hs2⟩ := two_boxes w k u
  have Hr2 := Lib.hid (hr.below (w' := w2) (fun q hq => hb2.block q (by omega)))
  have hB2 : B ≤ w2.heap.size := by omega
  obtain ⟨ao, cap, rfl⟩ : ∃ ao cap, u = .slice ao ms.length cap := by
    obtain ⟨a, c, h, _⟩ := hr
    exact ⟨a, c, h⟩
  have HI : Hid (I64s (ms ++ [((2 : Int), (0 : Int))])) := by
    obtain ⟨_, _, _, _, _, h, _⟩ := hr
    exact I64s_append h (I64s_one (I64_small (by omega) (by omega)) (I64_small (by omega) (by omega)))
  have hc1 := fun w h hB => specClaimOk p k ms B (.slice ao ms.length cap) w h hB
  clear hr
  have HB2 := Lib.hid hb2
  have HX2 := Lib.hid hx2
  have HY2 := Lib.hid hy2
  have hs3 : w.heap.size + 1 < w2.heap.size := by omega
  obtain ⟨x1, x2, x3, x4, x5⟩ := hx2
  clear hb2 hy2 hs2
  have l1 : ∀ o j, (w2.alloc o).cell? ⟨w.heap.size, j, none⟩ = w2.cell? ⟨w.heap.size, j, none⟩ := fun o j => World.cell?_alloc_lt w2 o ⟨w.heap.size, j, none⟩ x5
  have l2 : ∀ o o' j, ((w2.alloc o).alloc o').cell? ⟨w.heap.size, j, none⟩ = w2.cell? ⟨w.heap.size, j, none⟩ := fun o o' j => (World.cell?_alloc_lt (w2.alloc o) o' ⟨w.heap.size, j, none⟩ (by simp; omega)).trans (l1 o j)
  have l3 : ∀ o o' o'' j, (((w2.alloc o).alloc o').alloc o'').cell? ⟨w.heap.size, j, none⟩ = w2.cell? ⟨w.heap.size, j, none⟩ := fun o o' o'' j => (World.cell?_alloc_lt ((w2.alloc o).alloc o') o'' ⟨w.heap.size, j, none⟩ (by simp; omega)).trans (l2 o o' j)
  go_enter Try.func43, Try.ntmps43
  go_upto_region 1 with fail
  rw [← hw2]
  clear hw2
  go_cut [6] from 7 (fun v wr => ∃ (g : Nat) (a : Option Addr) (c : Nat), v = .pointer (some ⟨g, 0, none⟩) ∧ Box wr g (.int .i64 k) (.slice a (ms.length + 1) c) ∧ wr.ownsRow w2.heap.size TM 2 (.slice a (ms.length + 1) c) (ms.length + 1) (mcells (ms ++ [(2, 0)])) ∧ Below w2.heap.size w2 wr)
  case first =>
    go_region_held3 (fun w' => w'.cell? ⟨w.heap.size, 0, none⟩ = some (.int .i64 k) ∧ w'.cell? ⟨w.heap.size, 1, none⟩ = some (.slice ao ms.length cap))
      (first | (refine ⟨?_, ?_⟩ <;> first | go_keep | assumption) | assumption)
      (first
        | (refine app_keepB (by rfl) (.tmp 9) (.tmp 11) (by rfl) (by rfl) Mi.out Mz0.out Mz1.out Mz2.out (by rfl) (by rfl) Hr2.out hB2 ?_ (by first | exact ((Pre.refl w2 (mcells [(2, 0)])).startg _ (by simp)) | exact (((Pre.refl w2 (mcells [(2, 0)])).startg _ (by simp))).drew | exact (((Pre.refl w2 (mcells [(2, 0)])).startg _ (by simp))).drewN _ | exact (((Pre.refl w2 (mcells [(2, 0)])).startg _ (by simp)).layR _ (news2 _ _ rfl _ _ _)) | exact ((((Pre.refl w2 (mcells [(2, 0)])).startg _ (by simp)).layR _ (news2 _ _ rfl _ _ _))).drew | exact ((((Pre.refl w2 (mcells [(2, 0)])).startg _ (by simp)).layR _ (news2 _ _ rfl _ _ _))).drewN _ | exact (((Pre.refl w2 (mcells [(2, 0)])).layR _ (news2 _ _ rfl _ _ _)).startg _ (by simp)) | exact ((((Pre.refl w2 (mcells [(2, 0)])).layR _ (news2 _ _ rfl _ _ _)).startg _ (by simp))).drew | exact ((((Pre.refl w2 (mcells [(2, 0)])).layR _ (news2 _ _ rfl _ _ _)).startg _ (by simp))).drewN _ | exact (((Pre.refl w2 (mcells [(2, 0)])).startg _ (by simp)).layA _) | exact ((((Pre.refl w2 (mcells [(2, 0)])).startg _ (by simp)).layA _)).drew | exact ((((Pre.refl w2 (mcells [(2, 0)])).startg _ (by simp)).layA _)).drewN _ | exact (((Pre.refl w2 (mcells [(2, 0)])).layA _).startg _ (by simp)) | exact ((((Pre.refl w2 (mcells [(2, 0)])).layA _).startg _ (by simp))).drew | exact ((((Pre.refl w2 (mcells [(2, 0)])).layA _).startg _ (by simp))).drewN _ | exact ((((Pre.refl w2 (mcells [(2, 0)])).startg _ (by simp)).layA _).layR _ (news2 _ _ rfl _ _ _)) | exact (((((Pre.refl w2 (mcells [(2, 0)])).startg _ (by simp)).layA _).layR _ (news2 _ _ rfl _ _ _))).drew | exact (((((Pre.refl w2 (mcells [(2, 0)])).startg _ (by simp)).layA _).layR _ (news2 _ _ rfl _ _ _))).drewN _ | exact ((((Pre.refl w2 (mcells [(2, 0)])).startg _ (by simp)).layR _ (news2 _ _ rfl _ _ _)).layA _) | exact (((((Pre.refl w2 (mcells [(2, 0)])).startg _ (by simp)).layR _ (news2 _ _ rfl _ _ _)).layA _)).drew | exact (((((Pre.refl w2 (mcells [(2, 0)])).startg _ (by simp)).layR _ (news2 _ _ rfl _ _ _)).layA _)).drewN _ | exact ((((Pre.refl w2 (mcells [(2, 0)])).layA _).startg _ (by simp)).layR _ (news2 _ _ rfl _ _ _)) | exact (((((Pre.refl w2 (mcells [(2, 0)])).layA _).startg _ (by simp)).layR _ (news2 _ _ rfl _ _ _))).drew | exact (((((Pre.refl w2 (mcells [(2, 0)])).layA _).startg _ (by simp)).layR _ (news2 _ _ rfl _ _ _))).drewN _ | exact ((((Pre.refl w2 (mcells [(2, 0)])).layA _).layR _ (news2 _ _ rfl _ _ _)).startg _ (by simp)) | exact (((((Pre.refl w2 (mcells [(2, 0)])).layA _).layR _ (news2 _ _ rfl _ _ _)).startg _ (by simp))).drew | exact (((((Pre.refl w2 (mcells [(2, 0)])).layA _).layR _ (news2 _ _ rfl _ _ _)).startg _ (by simp))).drewN _ | exact ((((Pre.refl w2 (mcells [(2, 0)])).layR _ (news2 _ _ rfl _ _ _)).layA _).startg _ (by simp)) | exact (((((Pre.refl w2 (mcells [(2, 0)])).layR _ (news2 _ _ rfl _ _ _)).layA _).startg _ (by simp))).drew | exact (((((Pre.refl w2 (mcells [(2, 0)])).layR _ (news2 _ _ rfl _ _ _)).layA _).startg _ (by simp))).drewN _ | exact ((((Pre.refl w2 (mcells [(2, 0)])).layR _ (news2 _ _ rfl _ _ _)).startg _ (by simp)).layA _) | exact (((((Pre.refl w2 (mcells [(2, 0)])).layR _ (news2 _ _ rfl _ _ _)).startg _ (by simp)).layA _)).drew | exact (((((Pre.refl w2 (mcells [(2, 0)])).layR _ (news2 _ _ rfl _ _ _)).startg _ (by simp)).layA _)).drewN _) ?_
           go_must (omega)
           go_must (intro v1 wa hh
                    try simp only [size_allocD] at hh
                    have n0wa := ((hh.1.1).cell_far ⟨w.heap.size, 0, none⟩ x5 (by simp)).trans x1
                    have n1wa := ((hh.1.1).cell_far ⟨w.heap.size, 1, none⟩ x5 (by simp)).trans x2
                    have hzwa := hh.1.1.size
                    have H1 := Lib.hid hh; clear hh))
        | (refine app_lastB (by rfl) (.tmp 12) (.tmp 14) (by rfl) (by rfl) Mi.out Mz0.out Mz1.out Mz2.out (av := some _) (ns := [(2, 0)]) (m := 1) (by rfl) (by rfl) (by rfl) ?_ (by first | exact (H1.out) | exact ((H1.out)).drew | exact ((H1.out)).drewN _ | exact (H1.out.layR _ (news2 _ _ rfl _ _ _)) | exact ((H1.out.layR _ (news2 _ _ rfl _ _ _))).drew | exact ((H1.out.layR _ (news2 _ _ rfl _ _ _))).drewN _ | exact (H1.out.layA _) | exact ((H1.out.layA _)).drew | exact ((H1.out.layA _)).drewN _ | exact ((H1.out.layA _).layRg _ _ (by simp) (news2 _ _ (by simp) _ _ _)) | exact (((H1.out.layA _).layRg _ _ (by simp) (news2 _ _ (by simp) _ _ _))).drew | exact (((H1.out.layA _).layRg _ _ (by simp) (news2 _ _ (by simp) _ _ _))).drewN _ | exact ((H1.out.layR _ (news2 _ _ rfl _ _ _)).layA _) | exact (((H1.out.layR _ (news2 _ _ rfl _ _ _)).layA _)).drew | exact (((H1.out.layR _ (news2 _ _ rfl _ _ _)).layA _)).drewN _) ?_
           go_must (omega)
           go_must (intro ao3 cp3 wb hh
                    simp only [Nat.zero_add, List.nil_append, size_allocD] at hh
                    rw [← mcells_append] at hh
                    obtain ⟨hA1, hx6, hA3⟩ := hh.2 _ rfl
                    have q1 := ((hh.1.1).cell_far ⟨w.heap.size, 0, none⟩ x5 (by simp)).trans x1
                    have q2 := ((hh.1.1).cell_far ⟨w.heap.size, 1, none⟩ x5 (by simp)).trans x2
                    have q5 : w.heap.size < wb.heap.size := by have := hh.1.1.size; omega
                    obtain ⟨w6, e6, hx7, hg7⟩ := hx6.set (.int .i64 k) (.slice ao3 (ms.length + 1) cp3)
                    have r1 := (hg7.cell_far ⟨w.heap.size, 0, none⟩ q5 (by simp; omega)).trans q1
                    have r2 := (hg7.cell_far ⟨w.heap.size, 1, none⟩ q5 (by simp; omega)).trans q2
                    rw [e6] at r1 r2
                    have E6 := Lib.hid e6
                    have Hfin := Lib.hid (hh.fin hg7)
                    have HX7 := Lib.hid hx7
                    simp only [Nat.zero_add]
                    obtain ⟨y1, y2, y3, y4, y5⟩ := hx6
                    clear e6 hg7 hx7 hh hA1 hA3))
        | (refine app_lastB (by rfl) (.tmp 12) (.tmp 14) (by rfl) (by rfl) Mi.out Mz0.out Mz1.out Mz2.out (av := none) (ns := [(2, 0)]) (m := 1) (by rfl) (by rfl) (by rfl) ?_ (by first | exact (H1.out) | exact ((H1.out)).drew | exact ((H1.out)).drewN _ | exact (H1.out.layR _ (news2 _ _ rfl _ _ _)) | exact ((H1.out.layR _ (news2 _ _ rfl _ _ _))).drew | exact ((H1.out.layR _ (news2 _ _ rfl _ _ _))).drewN _ | exact (H1.out.layA _) | exact ((H1.out.layA _)).drew | exact ((H1.out.layA _)).drewN _ | exact ((H1.out.layA _).layRg _ _ (by simp) (news2 _ _ (by simp) _ _ _)) | exact (((H1.out.layA _).layRg _ _ (by simp) (news2 _ _ (by simp) _ _ _))).drew | exact (((H1.out.layA _).layRg _ _ (by simp) (news2 _ _ (by simp) _ _ _))).drewN _ | exact ((H1.out.layR _ (news2 _ _ rfl _ _ _)).layA _) | exact (((H1.out.layR _ (news2 _ _ rfl _ _ _)).layA _)).drew | exact (((H1.out.layR _ (news2 _ _ rfl _ _ _)).layA _)).drewN _) ?_
           go_must (omega)
           go_must (intro ao3 cp3 wb hh
                    simp only [Nat.zero_add, List.nil_append] at hh
                    rw [← mcells_append] at hh
                    have q1 := ((hh.1.1).cell_far ⟨w.heap.size, 0, none⟩ x5 (by simp)).trans x1
                    have q2 := ((hh.1.1).cell_far ⟨w.heap.size, 1, none⟩ x5 (by simp)).trans x2
                    have q5 : w.heap.size < wb.heap.size := by have := hh.1.1.size; omega
                    have Hfin := Lib.hid (And.intro hh.1.2.1 (below_none hh.1.1))
                    simp only [Nat.zero_add]
                    clear hh))
        | fail)
    all_goals
      go_wp2
      go_meet
      case rel => first
        | (rw [← E6.out]; exact ⟨_, ao3, cp3, rfl, HX7.out, Hfin.out.1, Hfin.out.2⟩)
        | (obtain ⟨w6, e6, hx, hb, _⟩ := Box.new wb (.int .i64 k) (.slice ao3 (ms.length + 1) cp3) TC
           rw [← e6]
           exact ⟨_, ao3, cp3, rfl, hx, own_below Hfin.out.1 hb, Hfin.out.2.trans (hb.mono Hfin.out.2.size)⟩)
  case rest =>
  rename World => w4
  obtain ⟨g, a5, c5, rfl, hx4, ho4, hb4⟩ := hcut
  have HR4 : Hid (RdMarks w4 w4.heap.size (.slice a5 (ms.length + 1) c5) (ms ++ [((2 : Int), (0 : Int))])) := by
    refine RdMarks.of_own (base := w2.heap.size) (e := TM) ?_ HI.out
    rw [List.length_append]
    exact ho4
  have Hm4 := Lib.hid (Hr2.out.below (w' := w4) (fun q hq => hb4.block q (by omega)))
  have hB4 : B ≤ w4.heap.size := by have := hb4.size; omega
  have hy4 := HY2.out.below hb4
  have hz4 := HX2.out.below hb4
  have HB4 := Lib.hid (HB2.out.trans (hb4.mono (by omega)))
  have Ho4 := Lib.hid ho4
  have Hx4 := Lib.hid hx4
  have Hy4 := Lib.hid hy4
  clear hb4 ho4 x1 x2 x3 x4 x5 l1 l2 l3 hx4 hy4
  obtain ⟨x1, x2, x3, x4, x5⟩ := hz4
  cases hok : claimOk p (k, ms) with
  | false =>
    have Hf := Lib.hid (denyOk_no hok)
    rw [hok] at hc1
    have Hc1 := Lib.hid hc1; clear hc1 hok
    go_wp2_with fail
    refine (Hc1.out _ Hm4.out hB4).mono ?_
    rintro e w5 ⟨rfl, hb5⟩
    have hy5 := Hy4.out.below hb5
    obtain ⟨w6, e6, hx6, hout⟩ := deny_none (w := w) (by omega) hy5 (HB4.out.trans (hb5.mono HB4.out.size)) Hf.out
    have E6 := Lib.hid e6
    have Hout := Lib.hid hout
    obtain ⟨y1, y2, y3, y4, y5⟩ := hy5
    clear e6 hout hb5 x1 x2 x3 x4 x5
    go_wp2
    rw [← E6.out]
    obtain ⟨z1, z2, _⟩ := hx6
    exact bodyPost_ret (by simp [results, Try.results43, go_sem, z1, z2]) rfl Hout.out
  | true =>
    have Hok := Lib.hid hok
    rw [hok] at hc1
    have Hc1 := Lib.hid hc1; clear hc1 hok
    have hc2 := fun B w h hB => specClaimOk p k (ms ++ [(2, 0)]) B (.slice a5 (ms.length + 1) c5) w h hB
    cases hok2 : claimOk p (k, ms ++ [(2, 0)]) with
    | false =>
      have Hf := Lib.hid (denyOk_no2 hok2)
      rw [hok2] at hc2
      have Hc2 := Lib.hid hc2; clear hc2 hok2
      go_wp2_with fail
      refine (Hc1.out _ Hm4.out hB4).mono ?_
      rintro e w5 ⟨rfl, hb5⟩
      have HR5 := Lib.hid (HR4.out.below (w' := w5) hb5.block)
      have hs5 := hb5.size
      have hy5 := Hy4.out.below hb5
      obtain ⟨v1, v2, v3, v4, v5⟩ := Hx4.out.below hb5
      have HB5 := Lib.hid (HB4.out.trans (hb5.mono HB4.out.size))
      clear hb5 x1 x2 x3 x4 x5
      go_wp2_with fail
      refine (Hc2.out _ _ HR5.out hs5).mono ?_
      rintro e w6 ⟨rfl, hb6⟩
      have hy6 := hy5.below hb6
      obtain ⟨w7, e7, hx7, hout⟩ := deny_none (w := w) (by omega) hy6 (HB5.out.trans (hb6.mono HB5.out.size)) Hf.out
      have E7 := Lib.hid e7
      have Hout := Lib.hid hout
      obtain ⟨y1, y2, y3, y4, y5⟩ := hy6
      clear e7 hout hb6 hy5 v1 v2 v3 v4 v5
      go_wp2
      rw [← E7.out]
      obtain ⟨z1, z2, _⟩ := hx7
      exact bodyPost_ret (by simp [results, Try.results43, go_sem, z1, z2]) rfl Hout.out
    | true =>
      have Hf := Lib.hid (denyOk_yes Hok.out hok2)
      rw [hok2] at hc2
      have Hc2 := Lib.hid hc2; clear hc2 hok2
      go_wp2_with fail
      refine (Hc1.out _ Hm4.out hB4).mono ?_
      rintro e w5 ⟨rfl, hb5⟩
      have HR5 := Lib.hid (HR4.out.below (w' := w5) hb5.block)
      have hs5 := hb5.size
      have hy5 := Hy4.out.below hb5
      have hx5 := Hx4.out.below hb5
      have Ho5 := Lib.hid (own_below Ho4.out hb5)
      have Hx5 := Lib.hid hx5
      obtain ⟨v1, v2, v3, v4, v5⟩ := hx5
      have HB5 := Lib.hid (HB4.out.trans (hb5.mono HB4.out.size))
      clear hb5 x1 x2 x3 x4 x5
      go_wp2_with fail
      refine (Hc2.out _ _ HR5.out hs5).mono ?_
      rintro e w6 ⟨rfl, hb6⟩
      have hy6 := hy5.below hb6
      obtain ⟨w7, e7, hx7, hout⟩ := deny_some (w := w) (w3 := w2) (by omega) hs3 hy6 (HB5.out.trans (hb6.mono HB5.out.size)) (own_below Ho5.out hb6) Hf.out
      have E7 := Lib.hid e7
      have Hout := Lib.hid hout
      clear v1 v2 v3 v4 v5
      obtain ⟨y1, y2, y3, y4, y5⟩ := hy6
      obtain ⟨v1, v2, v3, v4, v5⟩ := Hx5.out.below hb6
      clear e7 hout hb6 hy5
      go_wp2
      rw [← E7.out]
      obtain ⟨z1, z2, _⟩ := hx7
      exact bodyPost_ret (by simp [results, Try.results43, go_sem, z1, z2]) rfl Hout.out
end Go.Proofs.Ythiabicleedleaa
/- Stories made for a world: the mathematics; rows of terms in memory; an append of marks that are read. -/
namespace Go.Proofs.Ythiabicleedleaa
open Go.RowKit Go.Joins
abbrev Ts := List (List (Int × Int))
/-- what a person says of a term in a world: it, or that it is not so -/
def madeC (p : Int) (X : Nat) (k : Nat) (ms : List (Int × Int)) : Option Cl :=
  if claimOk p ((k : Int), ms) then if mayT p ((k : Int), ms) X then some ((k : Int), ms) else if denyOk p ((k : Int), ms) then some (denyV p ((k : Int), ms)) else none else none
/-- the claims of the first people, if all can be made -/
def madeK (p : Int) (X : Nat) (ts : Ts) : Nat → Option (List Cl)
  | 0 => some []
  | k + 1 => match madeK p X ts k, madeC p X k (ts.getD k []) with
    | some l, some c => some (l ++ [c])
    | _, _ => none
def madeF (p x : Int) (ts : Ts) : Option (List Cl) := if (wOk p x && decide ((ts.length : Int) ≤ p)) = true then madeK p x.toNat ts ts.length else none
theorem madeK_none {p : Int} {X : Nat} {ts : Ts} {k : Nat} (h : madeC p X k (ts.getD k []) = none) : ∀ j, k < j → madeK p X ts j = none
  | 0, h0 => absurd h0 (Nat.not_lt_zero _)
  | j + 1, h0 => by
    rw [madeK]
    by_cases e : k = j
    · subst e
      rw [h]
      split
      · rename_i h2; cases h2
      · rfl
    · rw [madeK_none h j (by omega)]
theorem madeK_some {p : Int} {X : Nat} {ts : Ts} {k : Nat} {l : List Cl} {c : Cl} (hl : madeK p X ts k = some l) (hc : madeC p X k (ts.getD k []) = some c) : madeK p X ts (k + 1) = some (l ++ [c]) := by rw [madeK, hl, hc]
/-! ### rows of terms in memory -/
abbrev RT := Value × List (Int × Int)
def rt0 : RT := (.slice none 0 0, [])
def RdTerms (w : World) (B : Nat) (v : Value) (rs : List RT) : Prop :=
  ∃ ao cap, v = .slice ao rs.length cap ∧ rs.length ≤ cap ∧ cap ≤ maxLen ∧ (∀ r ∈ rs, RdMarks w B r.1 r.2) ∧
    ∀ j, j < rs.length → ∃ b off, ao = some ⟨b, off, none⟩ ∧ b < B ∧ w.cell? ⟨b, off + j, none⟩ = some (rs.getD j rt0).1
theorem RdTerms.below {w w' : World} {B : Nat} {v : Value} {rs : List RT} (h : RdTerms w B v rs) (hb : ∀ k, k < B → w'.heap[k]? = w.heap[k]?) : RdTerms w' B v rs := by
  obtain ⟨ao, cap, hv, hl, hm, hi, hc⟩ := h
  refine ⟨ao, cap, hv, hl, hm, fun r hr => (hi r hr).below hb, fun j hj => ?_⟩
  obtain ⟨b, off, ha, hB, h1⟩ := hc j hj
  exact ⟨b, off, ha, hB, by rw [← h1]; exact World.cell?_of_block (w := w) (hb b hB)⟩
theorem RdTerms.mono {w : World} {B B' : Nat} {v : Value} {rs : List RT} (h : RdTerms w B v rs) (hB : B ≤ B') : RdTerms w B' v rs := by
  obtain ⟨ao, cap, hv, hl, hm, hi, hc⟩ := h
  refine ⟨ao, cap, hv, hl, hm, fun r hr => (hi r hr).mono hB, fun j hj => ?_⟩
  obtain ⟨b, off, ha, hb, h1⟩ := hc j hj
  exact ⟨b, off, ha, by omega, h1⟩
theorem RdTerms.get {w : World} {B : Nat} {v : Value} {rs : List RT} (h : RdTerms w B v rs) {j : Nat} (hj : j < rs.length) : RdMarks w B (rs.getD j rt0).1 (rs.getD j rt0).2 := by
  obtain ⟨_, _, _, _, _, hi, _⟩ := h
  rw [show rs.getD j rt0 = rs[j] by simp [List.getD, hj]]
  exact hi _ (List.getElem_mem hj)
/-! ### an append of marks -/
theorem Try.infoM12 : (Try.prog.info? TM).map (fun i => (i.zero, i.size, i.bytes)) = some (some (.agg #[.int .i64 0, .int .i64 0]), 2, 16) := by kernel_rfl
theorem append_marks12 {w : World} {base B n : Nat} {ty : TypeId} {v u : Value} {cs : List Value} {ms : List (Int × Int)} {ic : TypeInfo} (hci : Try.prog.info? TM = some ic) (hz : ic.zero = some (.agg #[.int .i64 0, .int .i64 0])) (hsize : ic.size = 2) (hby : ic.bytes = 16)
    (hown : w.ownsRow base TM 2 v n cs) (hr : RdMarks w B u ms) (hl : n + ms.length ≤ 1000000000000) (hbase : base ≤ w.heap.size) :
    ∃ v' w', (Builtin.append_ #[TS, TS] ty #[v, u]).run Try.prog w = .ok v' w' ∧ w'.ownsRow base TM 2 v' (n + ms.length) (cs ++ mcells ms) ∧ w.grownBy w' v.ownBlock ∧ (v'.ownBlock = v.ownBlock ∨ v'.ownBlock = some w.heap.size) := by
  have hr0 := hr
  have h1 := mcells_one ms
  obtain ⟨ao, cap, rfl, hlc, hcm, hi, hc⟩ := hr
  cases ao with
  | none =>
    have h0 : ms = [] := by
      cases ms with
      | nil => rfl
      | cons m r =>
        obtain ⟨_, _, he, _⟩ := hc 0 (by simp)
        cases he
    subst h0
    refine ⟨v, w, run_append_own_none w base TS ty TM ic 2 Try.underlying31 hci hsize v n cs hown cap (by unfold maxLen; omega), by simpa [mcells] using hown, World.grownBy.refl _ _, .inl rfl⟩
  | some a =>
    have hnews : ∀ (j : Nat) (x : Value), (mcells ms)[j]? = some x → w.cell? (a.add j) = some x := by
      cases ms with
      | nil => intro j x hj; simp [mcells] at hj
      | cons m r =>
        obtain ⟨b, off, he, _⟩ := hc 0 (by simp)
        cases he
        exact hr0.cells
    obtain ⟨v', w', h1, h2, h3, _, h5⟩ := run_append_own_at (P := Try.prog) w base TS ty TM ic (.agg #[.int .i64 0, .int .i64 0]) 2 16 Try.underlying31 hci hz hsize hby rfl (by omega) v n cs hown a ms.length cap (mcells ms) (mcells_length _) hnews h1 (by unfold maxLen; omega) (by omega) hbase
    exact ⟨v', w', h1, h2, h3, h5⟩
theorem wpList_append_marks12 {ops : Array Oper} {rest : List Oper} {o : Oper} {a : Act} {w : World} {Q : Exit → Act → World → Prop} {ic : TypeInfo} (hgd : o.guard = none) (s x : Operand)
    (ho : o.op = .call { callee := .builtin .append, args := #[s, x], argTypes := #[TS, TS] }) (hci : Try.prog.info? TM = some ic) (hz : ic.zero = some (.agg #[.int .i64 0, .int .i64 0])) (hsize : ic.size = 2) (hby : ic.bytes = 16)
    {base B n : Nat} {v u : Value} {cs : List Value} {ms : List (Int × Int)} (hs : a.eval s = v) (hx : a.eval x = u) (hown : w.ownsRow base TM 2 v n cs) (hr : RdMarks w B u ms) (hl : n + ms.length ≤ 1000000000000) (hbase : base ≤ w.heap.size)
    (h : ∀ v' w', w'.ownsRow base TM 2 v' (n + ms.length) (cs ++ mcells ms) → w.grownBy w' v.ownBlock → (v'.ownBlock = v.ownBlock ∨ v'.ownBlock = some w.heap.size) → wpList Try.prog ops Q rest (a.put o.dst v') w') : wpList Try.prog ops Q (o :: rest) a w := by
  refine wpList_plain hgd fun K hK => ?_
  obtain ⟨v', w', hr, h2, h3, h5⟩ := append_marks12 (ty := o.type) hci hz hsize hby hown hr hl hbase
  unfold Oper.wp execOp
  simp only [ho, resolve, invoke, builtin, Sem.run_bind, Sem.run_pure, Result.andThen_ok, List.map_toArray, List.map_cons, List.map_nil, hs, hx, hr]
  exact hK _ _ (h v' w' h2 h3 h5)
end Go.Proofs.Ythiabicleedleaa

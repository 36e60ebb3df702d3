/- Contracts of the laws' own helpers over rows of rows of numbers. -/
import Derived.Test.YtcppoepdpgeakaaIntRows
import Derived.Deep.OwnRows
import Derived.OwnWalk
namespace Go.Proofs.Ytcppoepdpgeakaa
open Go.RowKit Go.Joins
theorem own_len8 {w : World} {base n size : Nat} {e : TypeId} {v : Value} {xs : List Value} (h : w.ownsRow base e size v n xs) : ∃ ao cp, v = .slice ao n cp := by
  rcases h.2 with ⟨rfl, rfl⟩ | ⟨g, cap, cur, rfl, _⟩
  · exact ⟨_, _, rfl⟩
  · exact ⟨_, _, rfl⟩
set_option maxHeartbeats 400000 in
theorem szIntS_at (ao : Option Addr) (n cap : Nat) (left : Int) (hn : (n : Int) ≤ 9223372036854775807) (h0 : 0 ≤ left) (h1 : left ≤ 1048576) (w : World) :
    Calls Try.prog 32 #[.slice ao n cap, .int .i64 left] w fun e w' => (∃ r : Int, e = .returned (.int .i64 r) ∧ (r < 0 ∨ (0 ≤ r ∧ r ≤ left ∧ n ≤ 1048576))) ∧ w = w' := by
  by_cases h : (n : Int) ≤ left
  · have h' : ¬ left - (n : Int) < 0 := by omega
    go_enter Try.func32, Try.ntmps32
    go_wp2
    go_ret
    exact ⟨⟨_, rfl, .inr (by omega)⟩, rfl⟩
  · have h' : left - (n : Int) < 0 := by omega
    go_enter Try.func32, Try.ntmps32
    go_wp2
    go_ret
    exact ⟨⟨_, rfl, .inl (by omega)⟩, rfl⟩
set_option maxRecDepth 100000 in
set_option maxHeartbeats 1000000 in
theorem szIntSS (rs : List RW) (B : Nat) (v : Value) (w : World) (hr : RdRows w B v rs) :
    Calls Try.prog 10 #[v, .int .i64 1048576] w fun e w' => (∃ r : Int, e = .returned (.int .i64 r) ∧ (r < 0 ∨ (0 ≤ r ∧ rs.length ≤ 1048576 ∧ ∀ j, j < rs.length → (rs.getD j rw0).2.length ≤ 1048576))) ∧ w = w' := by
  have Hx := Lib.hid hr
  obtain ⟨ao, cap, rfl, hal, ham, _, hac0⟩ := hr
  have hac := Lib.hid hac0; clear hac0
  unfold maxLen at ham
  by_cases hlen : (rs.length : Int) ≤ 1048576
  case neg =>
    have h' : 1048576 - (rs.length : Int) < 0 := by omega
    go_enter Try.func10, Try.ntmps10
    go_wp2
    go_ret
    exact ⟨⟨_, rfl, .inl (by omega)⟩, rfl⟩
  have h' : ¬ 1048576 - (rs.length : Int) < 0 := by omega
  go_enter Try.func10, Try.ntmps10
  go_wp2
  go_loop [1, 4, 5] (fun l _ i => ∃ (j : Nat) (left : Int), j ≤ rs.length ∧ i = .int .i64 j ∧ l = .int .i64 left ∧ 0 ≤ left ∧ left ≤ 1048576 ∧ Hid (∀ k, k < j → (rs.getD k rw0).2.length ≤ 1048576)) (fun _ _ i => rs.length - (intOf i).toNat)
  case atStart => exact ⟨0, _, Nat.zero_le _, rfl, rfl, by omega, by omega, fun k hk => by omega⟩
  case round =>
    obtain ⟨j, left, hj, rfl, rfl, hl0, hl1, hall⟩ := hrel
    by_cases hlt : j < rs.length
    · obtain ⟨b1, o1, rfl, hb1, hc1⟩ := hac.out j hlt
      have hm := Hx.out.get hlt
      obtain ⟨uo, uc, hu, hul, hum⟩ : ∃ uo uc, (rs.getD j rw0).1 = .slice uo (rs.getD j rw0).2.length uc ∧ (rs.getD j rw0).2.length ≤ uc ∧ uc ≤ maxLen := by
        obtain ⟨uo, uc, h1, h2, h3, _⟩ := hm
        exact ⟨uo, uc, h1, h2, h3⟩
      unfold maxLen at hum
      obtain ⟨m, hme⟩ : ∃ m, m = (rs.getD j rw0).2.length := ⟨_, rfl⟩
      rw [← hme] at hu hul
      rw [hu] at hc1
      have Hme := Lib.hid hme
      clear hm hu hme
      have hmn : (m : Int) ≤ 9223372036854775807 := by omega
      go_wp2_with fail
      refine (szIntS_at uo m uc left hmn hl0 hl1 _).mono ?_
      rintro e w2 ⟨⟨r, rfl, hr⟩, rfl⟩
      by_cases hneg : r < 0
      · go_wp2
        go_ret
        exact ⟨⟨_, rfl, .inl (by omega)⟩, rfl⟩
      · have hr' : 0 ≤ r ∧ r ≤ left ∧ m ≤ 1048576 := by rcases hr with h | h; omega; exact h
        have Hall : Hid (∀ k, k < j + 1 → (rs.getD k rw0).2.length ≤ 1048576) := fun k hk => by
          by_cases e : k < j
          · exact hall.out k e
          · obtain rfl : k = j := by omega
            rw [← Hme.out]; exact hr'.2.2
        obtain ⟨hr0, hr1, _⟩ := hr'
        have Hlr := Lib.hid (show 0 ≤ r ∧ r ≤ 1048576 from ⟨hr0, by omega⟩)
        clear hr hl0 hl1 hr1 hall
        go_wp2
        go_round
        case rel => exact ⟨j + 1, r, by omega, by go_num, rfl, Hlr.out.1, Hlr.out.2, Hall⟩
        case measure => simp [intOf]; omega
    · obtain rfl : j = rs.length := by omega
      have Hlr := Lib.hid hl0
      clear hl0 hl1
      go_wp2
      go_ret
      exact ⟨⟨_, rfl, .inr ⟨Hlr.out, by omega, hall.out⟩⟩, rfl⟩
theorem Try.infoI8 : (Try.prog.info? 28).map (fun i => (i.zero, i.size, i.bytes)) = some (some (.slice none 0 0), 1, 24) := by kernel_rfl
def nilV : Value := .slice none 0 0
theorem rows_set (xs : List Value) (n k : Nat) (hk : xs.length = k) (hn : k < n) (u : Value) : (xs ++ List.replicate (n - k) nilV).set k u = (xs ++ [u]) ++ List.replicate (n - (k + 1)) nilV := by
  subst hk
  rw [show n - xs.length = (n - (xs.length + 1)) + 1 by omega, List.replicate_succ, List.set_append_right _ _ (Nat.le_refl _), Nat.sub_self, List.append_assoc]
  rfl
theorem take_map_snoc (rs : List RW) {k : Nat} (hk : k < rs.length) : (rs.map (·.2)).take (k + 1) = (rs.map (·.2)).take k ++ [(rs.getD k rw0).2] := by
  rw [List.take_succ_eq_append_getElem (by simpa using hk)]
  simp [List.getD, hk]
/-- rows of rows of the call's own, no two in one block -/
def OutSS (s : List (List Int)) (w : World) (e : Ending) (w' : World) : Prop := ∃ v rs, e = .returned v ∧ rs.map (·.2) = s ∧ RowsIn w' w.heap.size v rs ∧ Apart9 rs ∧ Below w.heap.size w w'
set_option maxRecDepth 100000 in
set_option maxHeartbeats 2000000 in
theorem toIntSS (rs : List RW) (hsz : rs.length ≤ 1048576) (hrz : Hid (∀ j, j < rs.length → (rs.getD j rw0).2.length ≤ 1048576)) (B : Nat) (v : Value) (w : World) (hr : RdRows w B v rs) (hB : B ≤ w.heap.size) :
    Calls Try.prog 12 #[v] w (OutSS (rs.map (·.2)) w) := by
  have Hx := Lib.hid hr
  obtain ⟨ao, acap, rfl, hal, ham, _, hac0⟩ := hr
  obtain ⟨i0, hi, hz0, hz1, hz2⟩ := info_parts Try.infoI8
  have hac := Lib.hid hac0; clear hac0
  unfold maxLen at ham
  have Htk := Lib.hid (fun k hk => take_map_snoc rs (k := k) hk)
  have Hta : Hid ((rs.map (·.2)).take rs.length = rs.map (·.2)) := by unfold Hid; rw [List.take_of_length_le (by simp)]
  generalize hn : rs.length = n at *
  have Hn := Lib.hid hn; clear hn
  go_enter Try.func12, Try.ntmps12
  go_wp2_with (at_make; refine wpList_make_full _ rfl _ _ 22 rfl w.heap.size 28 i0 (.slice none 0 0) 1 Try.underlying22 hi hz0 hz1 _ _ _ _ n rfl rfl rfl rfl ?b1 ?b2 ?b3 ?_)
  case b1 => first | omega | (rw [hz2]; omega)
  case b2 => unfold maxLen; omega
  try (case b3 => exact Nat.le_refl _)
  have Hi := Lib.hid hi; clear hi
  have Hz0 := Lib.hid hz0; clear hz0
  have Hz1 := Lib.hid hz1; clear hz1
  have Hz2 := Lib.hid hz2; clear hz2
  intro w1 hown hgrow
  have hb1 : Below w.heap.size w w1 := (Below.refl _ _).grown hgrow (Nat.le_refl _) (fun k hk => by cases hk)
  have hs1 : w.heap.size < w1.heap.size := (hown.lt w.heap.size rfl).2
  clear hgrow
  obtain ⟨g, hg⟩ : ∃ g, g = w.heap.size := ⟨_, rfl⟩
  rw [← hg] at hown hb1 hs1
  rw [← hg]
  have Hg := Lib.hid hg; clear hg
  have hown0 : w1.ownsRow g 28 1 (.slice (some ⟨g, 0, none⟩) n n) n (([] : List RW).map (·.1) ++ List.replicate (n - 0) nilV) := by
    have e : (madeCells #[Value.slice none 0 0] n).toList = ([] : List RW).map (·.1) ++ List.replicate (n - 0) nilV := by
      rw [toList_madeCells_one]; simp [nilV]
    rw [← e]; simpa [Value.cells] using hown
  clear hown
  go_wp2
  go_loopw [4] (fun i wr => ∃ (k : Nat) (ds : List RW), k ≤ n ∧ i = .int .i64 k ∧ ds.length = k ∧ Hid (ds.map (·.2) = (rs.map (·.2)).take k) ∧ wr.ownsRow g 28 1 (.slice (some ⟨g, 0, none⟩) n n) n (ds.map (·.1) ++ List.replicate (n - k) nilV) ∧ Hid (∀ r ∈ ds, wr.ownsRow (g + 1) 3 1 r.1 r.2.length (ints r.2)) ∧ Apart9 ds ∧ Below g w wr ∧ g < wr.heap.size) (fun i _ => n - (intOf i).toNat)
  case atStart => exact ⟨0, [], Nat.zero_le _, rfl, rfl, rfl, hown0, fun r hr => by simp at hr, Apart9.nil, hb1, hs1⟩
  case round =>
    obtain ⟨k, ds, hk, rfl, hdl, hds, hown, hrows, hap, hbr, hsr⟩ := hrel
    by_cases hlt : k < n
    · obtain ⟨b1, o1, rfl, hbB, hc1⟩ := hac.out k hlt
      have hrk := Hx.out.get (by rw [Hn.out]; exact hlt)
      have hzk := hrz.out k hlt
      have htk := Htk.out k hlt
      have hsrc : wr.cell? ⟨b1, o1 + k, none⟩ = some (rs.getD k rw0).1 := by rw [← hc1]; exact hbr.cell (p := ⟨b1, o1 + k, none⟩) (by show b1 < g; have := Hg.out; omega)
      generalize rs.getD k rw0 = q at *
      obtain ⟨u, zs⟩ := q
      dsimp only at hrk hzk htk hsrc
      have Hrk := Lib.hid (hrk.below (w' := wr) (fun q hq => hbr.block q (by have := Hg.out; omega)))
      obtain ⟨uo, uc, rfl, _, _, _⟩ := hrk
      have Htk1 := Lib.hid htk
      have hBr : B ≤ wr.heap.size := by have := Hg.out; omega
      have Hown := Lib.hid hown
      have Hap := Lib.hid hap
      have Hbr := Lib.hid hbr
      clear hc1 htk hown hap hbr
      go_wp2_with fail
      refine (toIntS zs (by omega) B _ _ Hrk.out hBr).mono ?_
      rintro e w2 ⟨v2, rfl, ho2, hb2⟩
      obtain ⟨fo, fc, rfl⟩ := own_len8 ho2
      have hs2 := hb2.size
      have hown2 := own_below9 Hown.out hb2
      have hst := hown2.stored k (.slice fo zs.length fc)
      rw [rows_set _ _ _ (by simpa using hdl) hlt] at hst
      have hfz := hown2.frozenAt k
      obtain ⟨uu, hcu⟩ : ∃ uu, w2.cell? ⟨g, k, none⟩ = some uu := ⟨_, by rw [hown2.cellAt k (by omega)]; exact List.getElem?_eq_getElem (by simp [hdl]; omega)⟩
      obtain ⟨hst1, hst2⟩ := hst
      have hnew : (w2.setCell ⟨g, k, none⟩ (.slice fo zs.length fc)).ownsRow (g + 1) 3 1 (.slice fo zs.length fc) zs.length (ints zs) := own_row9 (own_mono9 ho2 (show g + 1 ≤ wr.heap.size by omega)) hst2 (by omega)
      have hold : ∀ r ∈ ds, (w2.setCell ⟨g, k, none⟩ (.slice fo zs.length fc)).ownsRow (g + 1) 3 1 r.1 r.2.length (ints r.2) := fun r hr => own_row9 (own_below9 (hrows.out r hr) hb2) hst2 (by omega)
      have hfar : ∀ r ∈ ds, Far9 r.1 (.slice fo zs.length fc) := fun r hr => by
        unfold Far9
        cases hro : r.1.ownBlock with
        | none => exact .inl rfl
        | some x =>
          right
          intro he
          have h1 := ((hrows.out r hr).lt x hro).2
          have h2 := (ho2.lt x he.symm).1
          omega
      have Hst1 : Hid ((w2.setCell ⟨g, k, none⟩ (.slice fo zs.length fc)).ownsRow g 28 1 (.slice (some ⟨g, 0, none⟩) n n) n ((ds ++ [(Value.slice fo zs.length fc, zs)]).map (·.1) ++ List.replicate (n - (k + 1)) nilV)) := by
        unfold Hid; rw [List.map_append]; exact hst1
      have Hrows : Hid (∀ r ∈ ds ++ [(Value.slice fo zs.length fc, zs)], (w2.setCell ⟨g, k, none⟩ (.slice fo zs.length fc)).ownsRow (g + 1) 3 1 r.1 r.2.length (ints r.2)) := fun r hr => by
        rcases List.mem_append.1 hr with hr | hr
        · exact hold r hr
        · rw [List.mem_singleton] at hr; subst hr; exact hnew
      have Hap2 := Lib.hid (Hap.out.push (q := (Value.slice fo zs.length fc, zs)) hfar)
      have Hb3 : Hid (Below g w (w2.setCell ⟨g, k, none⟩ (.slice fo zs.length fc))) := (Hbr.out.trans (hb2.mono (by omega))).setCell (Nat.le_refl _) _
      have Hs3 : Hid (g < (w2.setCell ⟨g, k, none⟩ (.slice fo zs.length fc)).heap.size) := by unfold Hid; simp; omega
      have Hds : Hid ((ds ++ [(Value.slice fo zs.length fc, zs)]).map (·.2) = (rs.map (·.2)).take (k + 1)) := by unfold Hid; rw [Htk1.out, List.map_append, hds.out]; rfl
      clear hst1 hst2 hnew hold hfar ho2 hb2 hown2 hrows
      go_wp2
      go_roundw
      case rel => exact ⟨k + 1, ds ++ [(Value.slice fo zs.length fc, zs)], by omega, by go_num, by simp [hdl], Hds.out, Hst1.out, Hrows.out, Hap2.out, Hb3.out, Hs3.out⟩
      case measure => simp [intOf]; omega
    · obtain rfl : k = n := Nat.le_antisymm hk (Nat.le_of_not_lt hlt)
      go_wp2
      go_ret
      have h1 : Hid (ds.map (·.1) ++ List.replicate (k - k) nilV = ds.map (·.1)) := by unfold Hid; rw [Nat.sub_self]; simp
      rw [h1.out] at hown
      have hg := Hg.out
      subst hg
      refine ⟨_, ds, rfl, by rw [hds.out]; exact Hta.out, ⟨by rw [hdl]; exact hown, fun r hr => own_mono9 (hrows.out r hr) (by omega)⟩, hap, hbr⟩
end Go.Proofs.Ytcppoepdpgeakaa

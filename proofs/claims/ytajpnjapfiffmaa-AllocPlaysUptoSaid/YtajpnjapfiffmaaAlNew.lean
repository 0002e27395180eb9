/-
  blank, New: a new table.
-/
import Derived.Test.YtajpnjapfiffmaaKAlSeek
import Derived.Deep.RegionHeld3
import Derived.Deep.RegionLaw
namespace Go.Proofs.Ytajpnjapfiffmaa
open Go.RowKit Go.Maps

/-- a drive's cells -/
def drvV (c : Nat → Int) (d l : Int) : List Value := [.int .i64 (c 0), .int .i64 (c 1), .int .i64 (c 2), .int .i64 (c 3), .int .i64 d, .int .i64 l]
theorem load_cells (w : World) (t : TypeId) (b o : Nat) (cs : List Value) (ha : ∀ w, (isAgg t).run Try.prog w = .ok true w) (hs : ∀ w, (sizeOf t).run Try.prog w = .ok cs.length w) (h : ∀ j v, cs[j]? = some v → w.cell? ⟨b, o + j, none⟩ = some v) : (loadVar t ⟨b, o, none⟩).run Try.prog w = .ok (.agg cs.toArray) w := by
  have hl := run_loadCells_list (P := Try.prog) (w := w) ⟨b, o, none⟩ cs (fun j v hv => by rw [add_flat]; exact h j v hv)
  simp only [loadVar, Sem.run_bind, ha, Result.andThen_ok, if_true, hs]
  rw [hl]
  rfl
section
variable {w w' : World} {tb db mb cap D Z : Nat} {g : St}
set_option maxRecDepth 20000
set_option maxHeartbeats 1600000
theorem blank_any (d z : Nat) (w : World) : Calls Try.prog 28 #[.int .i64 (d : Int), .int .i64 (z : Int)] w fun e w' => e = .returned (.agg #[.int .i64 (z : Int), .int .i64 0, .int .i64 0, .int .i64 0, .int .i64 (d : Int), .int .i64 0]) ∧ Below w.heap.size w w' := by
  go_enter Try.func28, Try.ntmps28
  go_wp2_with fail
  have e1 : (w.alloc (.cells #[.int .i64 (z : Int), .int .i64 0, .int .i64 0, .int .i64 0, .int .i64 (d : Int), .int .i64 0] 64)).heap.size = w.heap.size + 1 := by simp
  have hB : Below w.heap.size w ((w.alloc (.cells #[.int .i64 (z : Int), .int .i64 0, .int .i64 0, .int .i64 0, .int .i64 (d : Int), .int .i64 0] 64)).alloc (.cells #[.int .i64 (z : Int), .int .i64 0, .int .i64 0, .int .i64 0, .int .i64 (d : Int), .int .i64 0] 64)) := ((Below.refl _ w).alloc (Nat.le_refl _) _).alloc (by rw [e1]; omega) _
  refine bodyPost_ret (v := .agg (drvV (fun k => if k = 0 then (z : Int) else 0) d 0).toArray) (results_cell1 rfl _ _ _ _ rfl (load_cells _ _ _ _ (drvV (fun k => if k = 0 then (z : Int) else 0) d 0) Try.isAgg64 Try.sizeOf64 ?_)) rfl ?_
  · intro j v hv
    rw [Nat.zero_add]
    exact ((Cells.new w #[.int .i64 (z : Int), .int .i64 0, .int .i64 0, .int .i64 0, .int .i64 (d : Int), .int .i64 0] 64).alloc _).cell hv
  · exact ⟨rfl, hB⟩
/-- the drives of a new table -/
def rowsN (z : Nat) : Nat → List Value
  | 0 => []
  | i + 1 => rowsN z i ++ drvV (fun k => if k = 0 then (z : Int) else 0) i 0
theorem rowsN_length (z : Nat) : ∀ i, (rowsN z i).length = 6 * i
  | 0 => rfl
  | i + 1 => by simp [rowsN, drvV, rowsN_length z i]; omega
theorem rowsN_get (z : Nat) : ∀ (i j k : Nat), j < i → k < 6 → (rowsN z i)[6 * j + k]? = (drvV (fun k => if k = 0 then (z : Int) else 0) j 0)[k]?
  | i + 1, j, k, hj, hk => by
    have hl := rowsN_length z i
    unfold rowsN
    by_cases h : j < i
    · rw [List.getElem?_append_left (by omega)]; exact rowsN_get z i j k h hk
    · obtain rfl : j = i := by omega
      rw [List.getElem?_append_right (by omega), hl, show 6 * j + k - 6 * j = k by omega]
/-- a table that is being made -/
structure NewSt (w wr : World) (d z i : Nat) (v : Value) : Prop where
  tc : Cells wr (w.heap.size + 1) 61 [.int .i64 (z : Int), v, .map (some w.heap.size)]
  mc : UM wr w.heap.size 3 (fun _ _ => none) d z
  own : wr.ownsRow w.heap.size 64 6 v i (rowsN z i)
  bel : Below w.heap.size w wr
theorem info_drive : (Try.prog.info? 64).map (fun i => (i.zero, i.size, i.bytes)) = some (some (.agg #[.int .i64 0, .int .i64 0, .int .i64 0, .int .i64 0, .int .i64 0, .int .i64 0]), 6, 48) := by kernel_rfl
theorem rowShape {w : World} {base e k M : Nat} {v : Value} {xs : List Value} (h : w.ownsRow base e k v M xs) : ∃ A c, v = .slice A M c := by
  rcases h.2 with ⟨rfl, h0⟩ | ⟨g, cap, cur, rfl, _⟩
  · exact ⟨none, 0, by rw [h0]⟩
  · exact ⟨_, _, rfl⟩
theorem undrew {B : Nat} {w w' : World} (h : Below B w.drew w') : Below B w w' := ⟨h.os, h.tape, h.output, h.size, h.block⟩
theorem step_app_drive {w : World} {ops : Array Oper} {K : Act → World → Prop} {E : Prop} {o : Oper} {a : Act} {Q : Exit → Act → World → Prop} (hgd : o.guard = none) (s x : Operand)
    (ho : o.op = .call { callee := .builtin .append, args := #[s, x], argTypes := #[59, 59] })
    (base : Nat) (v : Value) (M : Nat) (xs us : List Value) (hs : a.eval s = v) (hown : w.ownsRow base 64 6 v M xs)
    (g c : Nat) (hx : a.eval x = .slice (some ⟨g, 0, none⟩) 1 c) (hu : us.length = 6) (hc : ∀ j u, us[j]? = some u → w.cell? ⟨g, j, none⟩ = some u) (h1 : ∀ u ∈ us, u.oneCell' = true)
    (hlen : M + 1 ≤ 1000000) (hbase : base ≤ w.heap.size)
    (h : ∀ v' w', w'.ownsRow base 64 6 v' (M + 1) (xs ++ us) → w.grownBy w' v.ownBlock → (v'.ownBlock = v.ownBlock ∨ v'.ownBlock = some w.heap.size) → K (a.put o.dst v') w') :
    if Region.wanted o (yielded ops a.tmps) = true then Oper.wp Try.prog o a w K Q else E := by
  have hw : Region.wanted o (yielded ops a.tmps) = true := by simp [Region.wanted, hgd]
  rw [if_pos hw]
  obtain ⟨i0, hi0, hz0, hz1, hz2⟩ := info_parts info_drive
  obtain ⟨v', w', hrun, r2, r3, _, r5⟩ := run_append_own_at (P := Try.prog) w base 59 o.type 64 i0 _ 6 48 Try.underlying59 hi0 hz0 hz1 hz2 rfl (by omega) v M xs hown ⟨g, 0, none⟩ 1 c us
    (by simp [hu]) (fun j u hj => by rw [add_flat, Nat.zero_add]; exact hc j u hj) h1 (by simp only [maxLen]; omega) (by omega) hbase
  unfold Oper.wp execOp
  simp only [ho, resolve, invoke, builtin, Sem.run_bind, Sem.run_pure, Result.andThen_ok, List.map_toArray, List.map_cons, List.map_nil, hs, hx]
  rw [show (Builtin.append_ #[59, 59] o.type #[v, .slice (some ⟨g, 0, none⟩) 1 c]).run Try.prog w = .ok v' w' from hrun]
  exact h v' w' r2 r3 r5
theorem NewSt.below {w wr w3 : World} {d z i : Nat} {v : Value} (h : NewSt w wr d z i v) (hb : Below wr.heap.size wr w3) : NewSt w w3 d z i v :=
  ⟨h.tc.move (hb.block _ h.tc.lt), h.mc.below hb, World.ownsRow.kept (row := none) h.own ⟨hb.os, hb.tape, hb.output, hb.size, fun k hk _ => hb.block k hk⟩ (by cases hv : v.ownBlock <;> simp), h.bel.trans (hb.mono h.bel.size)⟩
theorem NewSt.snoc {w w3 w4 : World} {d z i : Nat} {v v4 : Value} (h : NewSt w w3 d z i v) (hown : w4.ownsRow w.heap.size 64 6 v4 (i + 1) (rowsN z (i + 1))) (hg : w3.grownBy w4 v.ownBlock) :
    w4.frozen? ⟨w.heap.size + 1, 1, none⟩ = false ∧ (∃ u, w4.cell? ⟨w.heap.size + 1, 1, none⟩ = some u) ∧ NewSt w (w4.setCell ⟨w.heap.size + 1, 1, none⟩ v4) d z (i + 1) v4 := by
  have hne : some (w.heap.size + 1) ≠ v.ownBlock := fun e => by
    rcases h.own.2 with ⟨hv, _⟩ | ⟨g, cap, cur, hv, _, hgg, _⟩
    · rw [hv] at e; cases e
    · rw [hv] at e
      cases e
      have := h.tc
      unfold Cells at this
      rw [this] at hgg
      simp at hgg
  have hnm : some w.heap.size ≠ v.ownBlock := fun e => by
    rcases h.own.2 with ⟨hv, _⟩ | ⟨g, cap, cur, hv, _, hgg, _⟩
    · rw [hv] at e; cases e
    · rw [hv] at e
      cases e
      exact h.mc.not_cells hgg
  have t4 : Cells w4 (w.heap.size + 1) 61 [.int .i64 (z : Int), v, .map (some w.heap.size)] := h.tc.move (hg.block _ h.tc.lt hne)
  refine ⟨t4.frozen 1, ⟨v, t4.cell rfl⟩, t4.set 1 v4, (h.mc.kept hg hnm).move (set_other _ _ (by omega)), ?_, ?_⟩
  · refine ⟨hown.1, ?_⟩
    rcases hown.2 with q | ⟨g, cap, cur, hv, hb, hgg, r⟩
    · exact .inl q
    · refine .inr ⟨g, cap, cur, hv, hb, (set_other _ _ (fun e => ?_)).trans hgg, r⟩
      unfold Cells at t4
      rw [← e, hgg] at t4
      simp at t4
  · exact (h.bel.grown hg h.bel.size (fun k hk => (World.ownsRow.lt h.own k hk).1)).setCell (p := ⟨w.heap.size + 1, 1, none⟩) (Nat.le_succ _) _
theorem new_any (d z : Nat) (hd : 1 ≤ d ∧ d ≤ 32) (hz : 1 ≤ z ∧ z ≤ 4096) (w : World) : Calls Try.prog 8 #[.int .i64 (d : Int), .int .i64 (z : Int)] w fun e w' => ∃ tb db mb cap, e = .returned (.tuple #[.pointer (some ⟨tb, 0, none⟩), .int .i64 0]) ∧ TabAt w' tb db mb cap d z (fun _ _ => 0) ∧ Below w.heap.size w w' ∧ w.heap.size ≤ tb ∧ w.heap.size ≤ db ∧ w.heap.size ≤ mb := by
  obtain ⟨hd1, hd2⟩ := hd
  obtain ⟨hz1, hz2⟩ := hz
  have a1 : ¬ (d : Int) < 1 := by omega
  have a2 : ¬ (32 : Int) < (d : Int) := by omega
  have a3 : ¬ (z : Int) < 1 := by omega
  have a4 : ¬ (4096 : Int) < (z : Int) := by omega
  have hmm := @run_makeMap Try.prog
  have Hst : Hid (NewSt w ((w.alloc (.map #[] 0)).alloc (.cells #[.int .i64 (z : Int), .slice none 0 0, .map (some w.heap.size)] 61)) d z 0 (.slice none 0 0)) := by
    have e1 : (w.alloc (.map #[] 0)).heap.size = w.heap.size + 1 := by simp
    refine ⟨?_, (UM.made w 3 d z (by omega) (by omega)).alloc _, World.ownsRow_nil _ _ _ _, ((Below.refl _ w).alloc (Nat.le_refl _) _).alloc (by rw [e1]; omega) _⟩
    rw [← e1]
    exact Cells.new _ _ _
  go_enter Try.func8, Try.ntmps8
  go_wp2_with fail
  go_loopw [27] (fun iv wr => ∃ (i : Nat) (v : Value), iv = .int .i64 (i : Int) ∧ i ≤ d ∧ Hid (NewSt w wr d z i v)) (fun iv _ => d - (intOf iv).toNat)
  case atStart => exact ⟨0, _, rfl, Nat.zero_le _, Hst.out⟩
  case round =>
    obtain ⟨i, v, rfl, hi, hst⟩ := hrel
    by_cases hlt : i < d
    · have hlt' : (i : Int) < (d : Int) := by omega
      have t1 : wr.cell? ⟨w.heap.size + 1, 1, none⟩ = some v := hst.out.tc.cell rfl
      have Hb := Lib.hid fun w3 => hst.out.below (w3 := w3)
      have Hi : Hid (i + 1 ≤ 1000000) := by show _ ≤ _; omega
      clear hst hlt
      go_wp2_with fail
      refine wp_region_noPanic ?_
      refine wp_region_held_drew (S := fun _ => True) (by kernel_rfl) ?_ (fun hHeld => ?_)
      · try dsimp only
        all_goals trivial
      refine wpAnyH_take (i := 0) (v := ?_) rfl (by kernel_rfl) (by kernel_rfl) (by kernel_rfl) (fun _ _ _ h => h) (Or.inl ⟨by rfl, ?_⟩) (by assumption) ?_
      rotate_left
      · intro w hSw
        try dsimp only at hSw
        simp only [List.getElem_toArray, List.getElem_cons_succ, List.getElem_cons_zero]
        go_simp
        try with_reducible rfl
      simp only [List.getElem_toArray, List.getElem_cons_succ, List.getElem_cons_zero]
      try simp only [Act.put, List.setIfInBounds_toArray, List.set_cons_zero, List.set_cons_succ]
      refine wpAnyH_take (i := 1) (v := ?_) rfl (by kernel_rfl) (by kernel_rfl) (by kernel_rfl) (fun _ _ _ h => h) (Or.inl ⟨by rfl, ?_⟩) (by assumption) ?_
      rotate_left
      · intro w hSw
        try dsimp only at hSw
        simp only [List.getElem_toArray, List.getElem_cons_succ, List.getElem_cons_zero]
        go_simp
        try with_reducible rfl
      simp only [List.getElem_toArray, List.getElem_cons_succ, List.getElem_cons_zero]
      try simp only [Act.put, List.setIfInBounds_toArray, List.set_cons_zero, List.set_cons_succ]
      refine wpAnyH_take (i := 2) (v := ?_) rfl (by kernel_rfl) (by kernel_rfl) (by kernel_rfl) (fun _ _ _ h => h) (Or.inl ⟨by rfl, ?_⟩) (by assumption) ?_
      rotate_left
      · intro w hSw
        try dsimp only at hSw
        simp only [List.getElem_toArray, List.getElem_cons_succ, List.getElem_cons_zero]
        go_simp
        try with_reducible rfl
      simp only [List.getElem_toArray, List.getElem_cons_succ, List.getElem_cons_zero]
      try simp only [Act.put, List.setIfInBounds_toArray, List.set_cons_zero, List.set_cons_succ]
      refine wpAnyH_take (i := 3) (v := ?_) rfl (by kernel_rfl) (by kernel_rfl) (by kernel_rfl) (fun _ _ _ h => h) (Or.inl ⟨by rfl, ?_⟩) (by assumption) ?_
      rotate_left
      · intro w hSw
        try dsimp only at hSw
        simp only [List.getElem_toArray, List.getElem_cons_succ, List.getElem_cons_zero]
        go_simp
        try with_reducible rfl
      simp only [List.getElem_toArray, List.getElem_cons_succ, List.getElem_cons_zero]
      try simp only [Act.put, List.setIfInBounds_toArray, List.set_cons_zero, List.set_cons_succ]
      refine wpAnyH_take (i := 5) (v := ?_) rfl (by kernel_rfl) (by kernel_rfl) (by kernel_rfl) (fun _ _ _ h => h) (Or.inl ⟨by rfl, ?_⟩) (by assumption) ?_
      rotate_left
      · intro w hSw
        try dsimp only at hSw
        simp only [List.getElem_toArray, List.getElem_cons_succ, List.getElem_cons_zero]
        go_simp
        try with_reducible rfl
      simp only [List.getElem_toArray, List.getElem_cons_succ, List.getElem_cons_zero]
      try simp only [Act.put, List.setIfInBounds_toArray, List.set_cons_zero, List.set_cons_succ]
      refine wpAnyH_take (i := 6) (v := ?_) rfl (by kernel_rfl) (by kernel_rfl) (by kernel_rfl) (fun _ _ _ h => h) (Or.inl ⟨by rfl, ?_⟩) (by assumption) ?_
      rotate_left
      · intro w hSw
        try dsimp only at hSw
        simp only [List.getElem_toArray, List.getElem_cons_succ, List.getElem_cons_zero]
        go_simp
        try with_reducible rfl
      simp only [List.getElem_toArray, List.getElem_cons_succ, List.getElem_cons_zero]
      try simp only [Act.put, List.setIfInBounds_toArray, List.set_cons_zero, List.set_cons_succ]
      refine wpAnyH_ready (rs := [4, 7]) (by kernel_rfl) (by simp) ?_
      refine AllReadyH.cons rfl (fun K hK => ?_) ?_
      · skip
        simp only [List.getElem_toArray, List.getElem_cons_succ, List.getElem_cons_zero]
        go_simp
        refine hK.out _ _ ?_ (fun hHeld => ?_)
        · try dsimp only
          all_goals trivial
        clear hK K
        try simp only [List.getElem_toArray, List.getElem_cons_succ, List.getElem_cons_zero]
        try simp only [Act.put, List.setIfInBounds_toArray, List.set_cons_zero, List.set_cons_succ]
        refine wpAnyH_ready (rs := [7]) (by kernel_rfl) (by simp) ?_
        refine AllReadyH.cons rfl (fun K hK => ?_) ?_
        · skip
          simp only [List.getElem_toArray, List.getElem_cons_succ, List.getElem_cons_zero]
          go_simp
          go_at_call 28
          refine (blank_any i z _).mono ?_
          rintro e w3 ⟨rfl, hb3⟩
          have H3 := Lib.hid (Hb.out w3 (undrew hb3))
          have t3 : w3.cell? ⟨w.heap.size + 1, 1, none⟩ = some v := H3.out.tc.cell rfl
          have t3' : ∀ o, (w3.alloc o).cell? ⟨w.heap.size + 1, 1, none⟩ = some v := (fun o => (H3.out.tc.alloc o).cell rfl)
          clear hb3
          refine hK.out _ _ ?_ (fun hHeld => ?_)
          · try dsimp only
            all_goals trivial
          clear hK K
          try simp only [List.getElem_toArray, List.getElem_cons_succ, List.getElem_cons_zero]
          try simp only [Act.put, List.setIfInBounds_toArray, List.set_cons_zero, List.set_cons_succ]
          refine wpAnyH_ready (rs := [8]) (by kernel_rfl) (by simp) ?_
          refine AllReadyH.cons rfl (fun K hK => ?_) ?_
          · skip
            simp only [List.getElem_toArray, List.getElem_cons_succ, List.getElem_cons_zero]
            go_simp
            refine hK.out _ _ ?_ (fun hHeld => ?_)
            · try dsimp only
              all_goals trivial
            clear hK K
            try simp only [List.getElem_toArray, List.getElem_cons_succ, List.getElem_cons_zero]
            try simp only [Act.put, List.setIfInBounds_toArray, List.set_cons_zero, List.set_cons_succ]
            refine wpAnyH_ready (rs := [9]) (by kernel_rfl) (by simp) ?_
            refine AllReadyH.cons rfl (fun K hK => ?_) ?_
            · skip
              (skip; refine step_app_drive rfl (.tmp 34) (.tmp 38) rfl w.heap.size v i (rowsN z i) (drvV (fun k => if k = 0 then (z : Int) else 0) i 0) rfl (World.ownsRow.alloc H3.out.own _) w3.heap.size 1 rfl rfl (fun j u hj => (Cells.new w3 _ _).cell hj) (by intro u hu; simp only [drvV, List.mem_cons, List.not_mem_nil, or_false] at hu; rcases hu with rfl | rfl | rfl | rfl | rfl | rfl <;> rfl) Hi.out (by have := H3.out.bel.size; simp; omega) ?_; intro v4 w4 hown4 hg4 _; obtain ⟨A4, c4, rfl⟩ := rowShape hown4; obtain ⟨f4, ⟨u4, k4⟩, hn4⟩ := (H3.out.below ((Below.refl _ _).alloc (Nat.le_refl _) _)).snoc hown4 hg4; have H4 := Lib.hid hn4; clear hown4 hg4 hn4)
              refine hK.out _ _ ?_ (fun hHeld => ?_)
              · try dsimp only
                all_goals trivial
              clear hK K
              try simp only [List.getElem_toArray, List.getElem_cons_succ, List.getElem_cons_zero]
              try simp only [Act.put, List.setIfInBounds_toArray, List.set_cons_zero, List.set_cons_succ]
              refine wpAnyH_take (i := 10) (v := ?_) rfl (by kernel_rfl) (by kernel_rfl) (by kernel_rfl) (fun _ _ _ h => h) (Or.inl ⟨by rfl, ?_⟩) (by assumption) ?_
              rotate_left
              · intro w hSw
                try dsimp only at hSw
                simp only [List.getElem_toArray, List.getElem_cons_succ, List.getElem_cons_zero]
                go_simp
                try with_reducible rfl
              simp only [List.getElem_toArray, List.getElem_cons_succ, List.getElem_cons_zero]
              try simp only [Act.put, List.setIfInBounds_toArray, List.set_cons_zero, List.set_cons_succ]
              refine wpAnyH_take (i := 11) (v := ?_) rfl (by kernel_rfl) (by kernel_rfl) (by kernel_rfl) (fun _ _ _ h => h) (Or.inl ⟨by rfl, ?_⟩) (by assumption) ?_
              rotate_left
              · intro w hSw
                try dsimp only at hSw
                simp only [List.getElem_toArray, List.getElem_cons_succ, List.getElem_cons_zero]
                go_simp
                try with_reducible rfl
              simp only [List.getElem_toArray, List.getElem_cons_succ, List.getElem_cons_zero]
              try simp only [Act.put, List.setIfInBounds_toArray, List.set_cons_zero, List.set_cons_succ]
              refine wpAnyH_ready (rs := [12]) (by kernel_rfl) (by simp) ?_
              refine AllReadyH.cons rfl (fun K hK => ?_) ?_
              · skip
                simp only [List.getElem_toArray, List.getElem_cons_succ, List.getElem_cons_zero]
                go_simp
                refine hK.out _ _ ?_ (fun hHeld => ?_)
                · try dsimp only
                  all_goals trivial
                clear hK K
                try simp only [List.getElem_toArray, List.getElem_cons_succ, List.getElem_cons_zero]
                try simp only [Act.put, List.setIfInBounds_toArray, List.set_cons_zero, List.set_cons_succ]
                refine wpAnyH_done (by kernel_rfl) ?_ _
                refine NoPanic.normal ?_
                go_wp2_with fail
                go_roundw
                case rel => exact ⟨i + 1, _, by go_num, by omega, H4.out⟩
                case measure => simp [intOf]; omega
              exact AllReadyH.nil
            exact AllReadyH.nil
          exact AllReadyH.nil
        exact AllReadyH.nil
      refine AllReadyH.cons rfl (fun K hK => ?_) ?_
      · skip
        simp only [List.getElem_toArray, List.getElem_cons_succ, List.getElem_cons_zero]
        go_simp
        go_at_call 28
        refine (blank_any i z _).mono ?_
        rintro e w3 ⟨rfl, hb3⟩
        have H3 := Lib.hid (Hb.out w3 (undrew hb3))
        have t3 : w3.cell? ⟨w.heap.size + 1, 1, none⟩ = some v := H3.out.tc.cell rfl
        have t3' : ∀ o, (w3.alloc o).cell? ⟨w.heap.size + 1, 1, none⟩ = some v := (fun o => (H3.out.tc.alloc o).cell rfl)
        clear hb3
        refine hK.out _ _ ?_ (fun hHeld => ?_)
        · try dsimp only
          all_goals trivial
        clear hK K
        try simp only [List.getElem_toArray, List.getElem_cons_succ, List.getElem_cons_zero]
        try simp only [Act.put, List.setIfInBounds_toArray, List.set_cons_zero, List.set_cons_succ]
        refine wpAnyH_ready (rs := [4, 8]) (by kernel_rfl) (by simp) ?_
        refine AllReadyH.cons rfl (fun K hK => ?_) ?_
        · skip
          simp only [List.getElem_toArray, List.getElem_cons_succ, List.getElem_cons_zero]
          go_simp
          refine hK.out _ _ ?_ (fun hHeld => ?_)
          · try dsimp only
            all_goals trivial
          clear hK K
          try simp only [List.getElem_toArray, List.getElem_cons_succ, List.getElem_cons_zero]
          try simp only [Act.put, List.setIfInBounds_toArray, List.set_cons_zero, List.set_cons_succ]
          refine wpAnyH_ready (rs := [8]) (by kernel_rfl) (by simp) ?_
          refine AllReadyH.cons rfl (fun K hK => ?_) ?_
          · skip
            simp only [List.getElem_toArray, List.getElem_cons_succ, List.getElem_cons_zero]
            go_simp
            refine hK.out _ _ ?_ (fun hHeld => ?_)
            · try dsimp only
              all_goals trivial
            clear hK K
            try simp only [List.getElem_toArray, List.getElem_cons_succ, List.getElem_cons_zero]
            try simp only [Act.put, List.setIfInBounds_toArray, List.set_cons_zero, List.set_cons_succ]
            refine wpAnyH_ready (rs := [9]) (by kernel_rfl) (by simp) ?_
            refine AllReadyH.cons rfl (fun K hK => ?_) ?_
            · skip
              (skip; refine step_app_drive rfl (.tmp 34) (.tmp 38) rfl w.heap.size v i (rowsN z i) (drvV (fun k => if k = 0 then (z : Int) else 0) i 0) rfl (World.ownsRow.alloc H3.out.own _) w3.heap.size 1 rfl rfl (fun j u hj => (Cells.new w3 _ _).cell hj) (by intro u hu; simp only [drvV, List.mem_cons, List.not_mem_nil, or_false] at hu; rcases hu with rfl | rfl | rfl | rfl | rfl | rfl <;> rfl) Hi.out (by have := H3.out.bel.size; simp; omega) ?_; intro v4 w4 hown4 hg4 _; obtain ⟨A4, c4, rfl⟩ := rowShape hown4; obtain ⟨f4, ⟨u4, k4⟩, hn4⟩ := (H3.out.below ((Below.refl _ _).alloc (Nat.le_refl _) _)).snoc hown4 hg4; have H4 := Lib.hid hn4; clear hown4 hg4 hn4)
              refine hK.out _ _ ?_ (fun hHeld => ?_)
              · try dsimp only
                all_goals trivial
              clear hK K
              try simp only [List.getElem_toArray, List.getElem_cons_succ, List.getElem_cons_zero]
              try simp only [Act.put, List.setIfInBounds_toArray, List.set_cons_zero, List.set_cons_succ]
              refine wpAnyH_take (i := 10) (v := ?_) rfl (by kernel_rfl) (by kernel_rfl) (by kernel_rfl) (fun _ _ _ h => h) (Or.inl ⟨by rfl, ?_⟩) (by assumption) ?_
              rotate_left
              · intro w hSw
                try dsimp only at hSw
                simp only [List.getElem_toArray, List.getElem_cons_succ, List.getElem_cons_zero]
                go_simp
                try with_reducible rfl
              simp only [List.getElem_toArray, List.getElem_cons_succ, List.getElem_cons_zero]
              try simp only [Act.put, List.setIfInBounds_toArray, List.set_cons_zero, List.set_cons_succ]
              refine wpAnyH_take (i := 11) (v := ?_) rfl (by kernel_rfl) (by kernel_rfl) (by kernel_rfl) (fun _ _ _ h => h) (Or.inl ⟨by rfl, ?_⟩) (by assumption) ?_
              rotate_left
              · intro w hSw
                try dsimp only at hSw
                simp only [List.getElem_toArray, List.getElem_cons_succ, List.getElem_cons_zero]
                go_simp
                try with_reducible rfl
              simp only [List.getElem_toArray, List.getElem_cons_succ, List.getElem_cons_zero]
              try simp only [Act.put, List.setIfInBounds_toArray, List.set_cons_zero, List.set_cons_succ]
              refine wpAnyH_ready (rs := [12]) (by kernel_rfl) (by simp) ?_
              refine AllReadyH.cons rfl (fun K hK => ?_) ?_
              · skip
                simp only [List.getElem_toArray, List.getElem_cons_succ, List.getElem_cons_zero]
                go_simp
                refine hK.out _ _ ?_ (fun hHeld => ?_)
                · try dsimp only
                  all_goals trivial
                clear hK K
                try simp only [List.getElem_toArray, List.getElem_cons_succ, List.getElem_cons_zero]
                try simp only [Act.put, List.setIfInBounds_toArray, List.set_cons_zero, List.set_cons_succ]
                refine wpAnyH_done (by kernel_rfl) ?_ _
                refine NoPanic.normal ?_
                go_wp2_with fail
                go_roundw
                case rel => exact ⟨i + 1, _, by go_num, by omega, H4.out⟩
                case measure => simp [intOf]; omega
              exact AllReadyH.nil
            exact AllReadyH.nil
          exact AllReadyH.nil
        refine AllReadyH.cons rfl (fun K hK => ?_) ?_
        · skip
          simp only [List.getElem_toArray, List.getElem_cons_succ, List.getElem_cons_zero]
          go_simp
          refine hK.out _ _ ?_ (fun hHeld => ?_)
          · try dsimp only
            all_goals trivial
          clear hK K
          try simp only [List.getElem_toArray, List.getElem_cons_succ, List.getElem_cons_zero]
          try simp only [Act.put, List.setIfInBounds_toArray, List.set_cons_zero, List.set_cons_succ]
          refine wpAnyH_ready (rs := [4]) (by kernel_rfl) (by simp) ?_
          refine AllReadyH.cons rfl (fun K hK => ?_) ?_
          · skip
            simp only [List.getElem_toArray, List.getElem_cons_succ, List.getElem_cons_zero]
            go_simp
            refine hK.out _ _ ?_ (fun hHeld => ?_)
            · try dsimp only
              all_goals trivial
            clear hK K
            try simp only [List.getElem_toArray, List.getElem_cons_succ, List.getElem_cons_zero]
            try simp only [Act.put, List.setIfInBounds_toArray, List.set_cons_zero, List.set_cons_succ]
            refine wpAnyH_ready (rs := [9]) (by kernel_rfl) (by simp) ?_
            refine AllReadyH.cons rfl (fun K hK => ?_) ?_
            · skip
              (skip; refine step_app_drive rfl (.tmp 34) (.tmp 38) rfl w.heap.size v i (rowsN z i) (drvV (fun k => if k = 0 then (z : Int) else 0) i 0) rfl (World.ownsRow.alloc H3.out.own _) w3.heap.size 1 rfl rfl (fun j u hj => (Cells.new w3 _ _).cell hj) (by intro u hu; simp only [drvV, List.mem_cons, List.not_mem_nil, or_false] at hu; rcases hu with rfl | rfl | rfl | rfl | rfl | rfl <;> rfl) Hi.out (by have := H3.out.bel.size; simp; omega) ?_; intro v4 w4 hown4 hg4 _; obtain ⟨A4, c4, rfl⟩ := rowShape hown4; obtain ⟨f4, ⟨u4, k4⟩, hn4⟩ := (H3.out.below ((Below.refl _ _).alloc (Nat.le_refl _) _)).snoc hown4 hg4; have H4 := Lib.hid hn4; clear hown4 hg4 hn4)
              refine hK.out _ _ ?_ (fun hHeld => ?_)
              · try dsimp only
                all_goals trivial
              clear hK K
              try simp only [List.getElem_toArray, List.getElem_cons_succ, List.getElem_cons_zero]
              try simp only [Act.put, List.setIfInBounds_toArray, List.set_cons_zero, List.set_cons_succ]
              refine wpAnyH_take (i := 10) (v := ?_) rfl (by kernel_rfl) (by kernel_rfl) (by kernel_rfl) (fun _ _ _ h => h) (Or.inl ⟨by rfl, ?_⟩) (by assumption) ?_
              rotate_left
              · intro w hSw
                try dsimp only at hSw
                simp only [List.getElem_toArray, List.getElem_cons_succ, List.getElem_cons_zero]
                go_simp
                try with_reducible rfl
              simp only [List.getElem_toArray, List.getElem_cons_succ, List.getElem_cons_zero]
              try simp only [Act.put, List.setIfInBounds_toArray, List.set_cons_zero, List.set_cons_succ]
              refine wpAnyH_take (i := 11) (v := ?_) rfl (by kernel_rfl) (by kernel_rfl) (by kernel_rfl) (fun _ _ _ h => h) (Or.inl ⟨by rfl, ?_⟩) (by assumption) ?_
              rotate_left
              · intro w hSw
                try dsimp only at hSw
                simp only [List.getElem_toArray, List.getElem_cons_succ, List.getElem_cons_zero]
                go_simp
                try with_reducible rfl
              simp only [List.getElem_toArray, List.getElem_cons_succ, List.getElem_cons_zero]
              try simp only [Act.put, List.setIfInBounds_toArray, List.set_cons_zero, List.set_cons_succ]
              refine wpAnyH_ready (rs := [12]) (by kernel_rfl) (by simp) ?_
              refine AllReadyH.cons rfl (fun K hK => ?_) ?_
              · skip
                simp only [List.getElem_toArray, List.getElem_cons_succ, List.getElem_cons_zero]
                go_simp
                refine hK.out _ _ ?_ (fun hHeld => ?_)
                · try dsimp only
                  all_goals trivial
                clear hK K
                try simp only [List.getElem_toArray, List.getElem_cons_succ, List.getElem_cons_zero]
                try simp only [Act.put, List.setIfInBounds_toArray, List.set_cons_zero, List.set_cons_succ]
                refine wpAnyH_done (by kernel_rfl) ?_ _
                refine NoPanic.normal ?_
                go_wp2_with fail
                go_roundw
                case rel => exact ⟨i + 1, _, by go_num, by omega, H4.out⟩
                case measure => simp [intOf]; omega
              exact AllReadyH.nil
            exact AllReadyH.nil
          exact AllReadyH.nil
        exact AllReadyH.nil
      exact AllReadyH.nil
    · obtain rfl : i = d := by omega
      have Hfin : Hid (∃ db cap, TabAt wr (w.heap.size + 1) db w.heap.size cap i z (fun _ _ => 0) ∧ Below w.heap.size w wr ∧ w.heap.size ≤ db) := by
        have hs := hst.out
        rcases hs.own.2 with ⟨_, h0⟩ | ⟨db, cap, cur, hv, hb, hgg, hn, hm, hsz, htk⟩
        · omega
        · refine ⟨db, cap, ⟨hd1, hd2, hz1, hz2, hn, hv ▸ hs.tc, ⟨cur, hgg, fun j hj => ?_⟩, hs.mc, fun _ _ => Nat.zero_le _, fun _ _ _ => rfl⟩, hs.bel, hb⟩
          have hget : ∀ k, k < 6 → cur[6 * j + k]? = (drvV (fun k => if k = 0 then (z : Int) else 0) j 0)[k]? := by
            intro k hk
            rw [← rowsN_get z i j k hj hk, ← htk, List.getElem?_take, if_pos (by omega), Array.getElem?_toList]
          have hc0 : cnt (fun _ => 0) 0 z = z := cntB_full z (fun _ _ => rfl)
          have hcz : ∀ k, k ≠ 0 → cnt (fun _ => 0) k z = 0 := fun k hk => (cntB_zero z).2 fun _ _ => by
            cases hkk : (0 == k)
            · rfl
            · exact absurd (by simpa using hkk : 0 = k).symm hk
          have hlow : low (fun _ => 0) z = 0 := (low_uniq (Nat.zero_le _) (fun y hy => by omega) (fun _ => rfl)).symm
          refine ⟨fun k hk => ?_, by rw [hget 4 (by omega)]; rfl, by show _ = some (Value.int .i64 ((low (fun _ => 0) z : Nat) : Int)); rw [hget 5 (by omega), hlow]; rfl⟩
          rw [hget k (by omega)]
          obtain rfl | rfl | rfl | rfl : k = 0 ∨ k = 1 ∨ k = 2 ∨ k = 3 := by omega
          · show _ = some (Value.int .i64 ((cnt (fun _ => 0) 0 z : Nat) : Int)); rw [hc0]; rfl
          · show _ = some (Value.int .i64 ((cnt (fun _ => 0) 1 z : Nat) : Int)); rw [hcz 1 (by omega)]; rfl
          · show _ = some (Value.int .i64 ((cnt (fun _ => 0) 2 z : Nat) : Int)); rw [hcz 2 (by omega)]; rfl
          · show _ = some (Value.int .i64 ((cnt (fun _ => 0) 3 z : Nat) : Int)); rw [hcz 3 (by omega)]; rfl
      clear hst hlt
      go_wp2_with fail
      go_ret2
      obtain ⟨db, cap, h1, h2, h3⟩ := Hfin.out
      exact ⟨_, _, _, _, rfl, h1, h2, Nat.le_succ _, h3, Nat.le_refl _⟩
theorem new_bad (d z : Int) (h : ¬ (1 ≤ d ∧ d ≤ 32 ∧ 1 ≤ z ∧ z ≤ 4096)) (w : World) : Calls Try.prog 8 #[.int .i64 d, .int .i64 z] w fun e w' => e = .returned (.tuple #[.pointer none, .int .i64 1]) ∧ w' = w := by
  by_cases a1 : d < 1
  · go_enter Try.func8, Try.ntmps8
    go_wp2_with fail
    go_ret2
    exact ⟨rfl, rfl⟩
  by_cases a2 : 32 < d
  · go_enter Try.func8, Try.ntmps8
    go_wp2_with fail
    go_ret2
    exact ⟨rfl, rfl⟩
  by_cases a3 : z < 1
  · go_enter Try.func8, Try.ntmps8
    go_wp2_with fail
    go_ret2
    exact ⟨rfl, rfl⟩
  have a4 : 4096 < z := by omega
  clear h
  go_enter Try.func8, Try.ntmps8
  go_wp2_with fail
  go_ret2
  exact ⟨rfl, rfl⟩
end
end Go.Proofs.Ytajpnjapfiffmaa

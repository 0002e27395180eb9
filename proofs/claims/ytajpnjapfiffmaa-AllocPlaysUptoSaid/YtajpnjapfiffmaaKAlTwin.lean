/-
  Twin's clones: of the map of states, of the drives.
-/
import Derived.Test.YtajpnjapfiffmaaAlLay
import Derived.Test.YtajpnjapfiffmaaAlNew
import Derived.Deep.RegionHeld3
namespace Go.Proofs.Ytajpnjapfiffmaa
open Go.RowKit Go.Maps Go.Shelf

section
set_option maxRecDepth 100000
set_option maxHeartbeats 4000000
variable {w : World} {tb db mb cap D Z : Nat} {g : St}
theorem cloneMap_any {f : Um} (h : UM w mb 3 f D Z) :
    Calls Try.prog 43 #[.map (some mb)] w fun e w' => e = .returned (.map (some w.heap.size)) ∧ UM w' w.heap.size 3 f D Z ∧ Below w.heap.size w w' := by
  obtain ⟨Dm, h1, h2⟩ := h
  refine (AnyW.maps_Clone_owns (ρ := layClone_ren) layClone 24 (plainElem Try.prog 3) mb _ Dm w h1).mono ?_
  rintro e w' ⟨he, h3, _, hb⟩
  exact ⟨he, ⟨Dm, h3, h2⟩, hb⟩
/-- the drives' cells, as a list -/
theorem DC.list {c : Nat → Nat → Int} {l : Nat → Int} (h : DC w db D c l) (hD : 1 ≤ D) : ∃ ns : List Value, ns.length = D * 6 ∧ (∀ j u, ns[j]? = some u → w.cell? ⟨db, j, none⟩ = some u) ∧ (∀ u ∈ ns, u.oneCell' = true) ∧ ∀ d, d < D → (∀ k, k < 4 → ns[6 * d + k]? = some (.int .i64 (c d k))) ∧ ns[6 * d + 4]? = some (.int .i64 (d : Int)) ∧ ns[6 * d + 5]? = some (.int .i64 (l d)) := by
  obtain ⟨cur, h1, h2⟩ := h
  have hsz : D * 6 ≤ cur.size := by
    have := (Array.getElem?_eq_some_iff.1 (h2 (D - 1) (by omega)).2.2).1
    omega
  have hget : ∀ j, j < D * 6 → (cur.toList.take (D * 6))[j]? = cur[j]? := fun j hj => by rw [List.getElem?_take, if_pos hj, Array.getElem?_toList]
  refine ⟨cur.toList.take (D * 6), by simp; omega, fun j u hj => ?_, fun u hu => ?_, fun d hd => ⟨fun k hk => ?_, ?_, ?_⟩⟩
  · have hj' : j < D * 6 := by
      have := (List.getElem?_eq_some_iff.1 hj).1
      simp at this
      omega
    rw [hget j hj'] at hj
    simp [World.cell?, h1, hj]
  · obtain ⟨j, hj, rfl⟩ := List.getElem_of_mem hu
    have hj' : j < D * 6 := by simp at hj; omega
    have e : (cur.toList.take (D * 6))[j]? = some ((cur.toList.take (D * 6))[j]) := List.getElem?_eq_getElem hj
    rw [hget j hj'] at e
    have hd : j / 6 < D := by omega
    obtain ⟨p, q, r⟩ := h2 (j / 6) hd
    have hm : j % 6 < 6 := by omega
    by_cases q4 : j % 6 < 4
    · have := p (j % 6) q4
      rw [show 6 * (j / 6) + j % 6 = j by omega, e] at this
      have e2 : (cur.toList.take (D * 6))[j] = _ := Option.some.inj this
      try simp only [List.get_eq_getElem]
      rw [e2]; rfl
    · by_cases q5 : j % 6 = 4
      · rw [show 6 * (j / 6) + 4 = j by omega, e] at q
        have e2 : (cur.toList.take (D * 6))[j] = _ := Option.some.inj q
        try simp only [List.get_eq_getElem]
        rw [e2]; rfl
      · rw [show 6 * (j / 6) + 5 = j by omega, e] at r
        have e2 : (cur.toList.take (D * 6))[j] = _ := Option.some.inj r
        try simp only [List.get_eq_getElem]
        rw [e2]; rfl
  · rw [hget _ (by omega)]; exact (h2 d hd).1 k hk
  · rw [hget _ (by omega)]; exact (h2 d hd).2.1
  · rw [hget _ (by omega)]; exact (h2 d hd).2.2
theorem app_drives {w : World} {ops : Array Oper} {rest : List Oper} {o : Oper} {a : Act} {Q : Exit → Act → World → Prop} {c : Nat → Nat → Int} {l : Nat → Int} (hgd : o.guard = none) (s x : Operand)
    (ho : o.op = .call { callee := .builtin .append, args := #[s, x], argTypes := #[59, 59] })
    (b : Nat) (hs : a.eval s = .slice (some ⟨b, 0, none⟩) 0 0) (hx : a.eval x = .slice (some ⟨db, 0, none⟩) D cap) (h : DC w db D c l) (hD : 1 ≤ D ∧ D ≤ 32)
    (hK : ∀ w' cap', DC w' w.heap.size D c l → D ≤ cap' → Below w.heap.size w w' → wpList Try.prog ops Q rest (a.put o.dst (.slice (some ⟨w.heap.size, 0, none⟩) D cap')) w') :
    wpList Try.prog ops Q (o :: rest) a w := by
  refine wpList_plain hgd fun K hKK => ?_
  obtain ⟨ns, hl, hc, h1, hd⟩ := h.list hD.1
  obtain ⟨i0, hi0, hz0, hz1, hz2⟩ := info_parts info_drive
  have hr := run_append_grow (P := Try.prog) w 59 o.type 64 i0 _ Try.underlying59 hi0 hz0 ⟨b, 0, none⟩ 0 0 [] (by simp) (fun j u hj => by simp at hj) ⟨db, 0, none⟩ D cap ns (by rw [hz1]; exact hl) (fun j u hj => by rw [add_flat, Nat.zero_add]; exact hc j u hj) (by omega) (by omega) (by rw [hz2]; have := nextslicecap_le (need := 0 + D) (old := 0) (by omega); omega)
  unfold Oper.wp execOp
  simp only [ho, resolve, invoke, builtin, Sem.run_bind, Sem.run_pure, Result.andThen_ok, List.map_toArray, List.map_cons, List.map_nil, hs, hx]
  rw [show (Builtin.append_ #[59, 59] o.type #[.slice (some ⟨b, 0, none⟩) 0 0, .slice (some ⟨db, 0, none⟩) D cap]).run Try.prog w = _ from hr]
  rw [Nat.zero_add]
  have hge := grownCap_ge w D 0 64
  refine hKK _ _ (hK _ _ ⟨_, heap_alloc_new w.drew _, fun d hdd => ?_⟩ hge (((Below.refl w.heap.size w).drew).alloc (Nat.le_refl _) _))
  have hget : ∀ j, j < D * 6 → ([].toArray ++ ns.toArray ++ Builtin.zeroCells (Value.agg #[.int .i64 0, .int .i64 0, .int .i64 0, .int .i64 0, .int .i64 0, .int .i64 0]).cells (grownCap w D 0 64 - D))[j]? = ns[j]? := fun j hj => by
    rw [Array.getElem?_append_left (by simp; omega)]
    simp
  obtain ⟨p, q, r⟩ := hd d hdd
  refine ⟨fun k hk => ?_, ?_, ?_⟩
  · rw [hget _ (by omega)]; exact p k hk
  · rw [hget _ (by omega)]; exact q
  · rw [hget _ (by omega)]; exact r
theorem cloneDrives_any {c : Nat → Nat → Int} {l : Nat → Int} (h : DC w db D c l) (hD : 1 ≤ D ∧ D ≤ 32) :
    Calls Try.prog 42 #[.slice (some ⟨db, 0, none⟩) D cap] w fun e w' => ∃ g' cap', e = .returned (.slice (some ⟨g', 0, none⟩) D cap') ∧ DC w' g' D c l ∧ D ≤ cap' ∧ w.heap.size ≤ g' ∧ Below w.heap.size w w' := by
  have hq := fun W => Lib.run_eql_slice_nil (P := Try.prog) W 59 64 (some ⟨db, 0, none⟩) D cap 0 0 Try.underlying59
  have H := Lib.hid h
  clear h
  go_enter Try.func42, Try.ntmps42
  go_wp2_with (at_builtin; refine app_drives rfl (.tmp 5) (.tmp 6) rfl w.heap.size rfl rfl (H.out.move (Below.heap_alloc w _ _ H.out.lt)) hD ?_; intro w2 cap2 hdc hcap hb; have H2 : Hid (DC w2 (w.heap.size + 1) D c l ∧ D ≤ cap2 ∧ Below w.heap.size w w2) := ⟨by simpa using hdc, hcap, ((Below.refl w.heap.size w).alloc (Nat.le_refl _) _).trans (hb.mono (by simp))⟩; clear hdc hcap hb)
  go_ret
  exact ⟨_, _, rfl, H2.out.1, H2.out.2.1, Nat.le_succ _, H2.out.2.2⟩
end
end Go.Proofs.Ytajpnjapfiffmaa

/-
  Twin.
-/
namespace Go.Proofs.Ytajpnjapfiffmaa
open Go.RowKit Go.Maps Go.Shelf

section
set_option maxRecDepth 100000
set_option maxHeartbeats 1600000
variable {w : World} {tb db mb cap D Z : Nat} {g : St}
theorem twin_any (h : TabAt w tb db mb cap D Z g) :
    Calls Try.prog 19 #[.pointer (some ⟨tb, 0, none⟩)] w fun e w' => ∃ tb' db' mb' cap', e = .returned (.pointer (some ⟨tb', 0, none⟩)) ∧ TabAt w' tb' db' mb' cap' D Z g ∧ Below w.heap.size w w' ∧ w.heap.size ≤ tb' ∧ w.heap.size ≤ db' ∧ w.heap.size ≤ mb' := by
  have H := Lib.hid h
  have k0 : w.drew.cell? ⟨tb, 0, none⟩ = some (.int .i64 (Z : Int)) ∧ w.drew.cell? ⟨tb, 1, none⟩ = some (.slice (some ⟨db, 0, none⟩) D cap) ∧ w.drew.cell? ⟨tb, 2, none⟩ = some (.map (some mb)) := ⟨h.z0, h.t1, h.m2⟩
  have Hk : Hid (∀ W, Below w.heap.size w W → W.cell? ⟨tb, 0, none⟩ = some (.int .i64 (Z : Int)) ∧ W.cell? ⟨tb, 1, none⟩ = some (.slice (some ⟨db, 0, none⟩) D cap) ∧ W.cell? ⟨tb, 2, none⟩ = some (.map (some mb))) := fun W hb => ⟨(h.below hb).z0, (h.below hb).t1, (h.below hb).m2⟩
  have Hc1 := Lib.hid (cloneDrives_any (w := w.drew) (cap := cap) (h.drew.dc) ⟨h.d1, h.d2⟩)
  have Hc2 : Hid (∀ W, Below w.heap.size w W → Calls Try.prog 43 #[.map (some mb)] W fun e w' => e = .returned (.map (some W.heap.size)) ∧ UM w' W.heap.size 3 (stU g) D Z ∧ Below W.heap.size W w') := fun W hb => cloneMap_any (h.below hb).mc
  have Hd : Hid (∀ W, Below w.drew.heap.size w.drew W → Below w.heap.size w W) := fun W hb => ⟨hb.os, hb.tape, hb.output, hb.size, hb.block⟩
  clear h
  go_enter Try.func19, Try.ntmps19
  go_wp2_with fail
  go_region_held3 (fun X => X.cell? ⟨tb, 0, none⟩ = some (.int .i64 (Z : Int)) ∧ X.cell? ⟨tb, 1, none⟩ = some (.slice (some ⟨db, 0, none⟩) D cap) ∧ X.cell? ⟨tb, 2, none⟩ = some (.map (some mb))) (first | exact k0 | exact j1 | exact j2 | exact j3 _) (first
    | (go_at_call 42; refine Hc1.out.mono ?_; rintro e w3 ⟨g', cap', rfl, hdc, hcap, hge, hb3⟩; have Hb3 := Lib.hid (Hd.out _ hb3); have j1 := Hk.out w3 Hb3.out; have H3 := Lib.hid (And.intro hdc (And.intro hcap hge)); clear hb3 hdc hcap hge)
    | (go_at_call 43; refine (Hc2.out _ Hb3.out).mono ?_; rintro e w4 ⟨rfl, hum, hb4⟩; have Hb4 : Hid (Below w.heap.size w w4) := Hb3.out.trans (hb4.mono Hb3.out.size); have j2 := Hk.out w4 Hb4.out; have j3 := fun o => Hk.out (w4.alloc o) (Hb4.out.alloc Hb4.out.size o); have H4 : Hid (UM w4 w3.heap.size 3 (stU g) D Z ∧ Below w3.heap.size w3 w4) := ⟨hum, hb4⟩; clear hum hb4))
  all_goals
    go_wp2_with fail
    go_ret
    obtain ⟨hdc, hcap, hge⟩ := H3.out
    obtain ⟨hum, hb4⟩ := H4.out
    have hdc4 : DC w4 g' D (fun d k => (cnt (g d) k Z : Nat)) (fun d => (low (g d) Z : Nat)) := hdc.move (hb4.block _ hdc.lt)
    have h0 := H.out
    refine ⟨w4.heap.size, g', w3.heap.size, cap', rfl, ⟨h0.d1, h0.d2, h0.z1, h0.z2, hcap, Cells.new w4 _ _, hdc4.move (Below.heap_alloc _ _ _ hdc4.lt), hum.alloc _, h0.le, h0.out⟩, Hb4.out.alloc Hb4.out.size _, Hb4.out.size, hge, Hb3.out.size⟩
end
end Go.Proofs.Ytajpnjapfiffmaa

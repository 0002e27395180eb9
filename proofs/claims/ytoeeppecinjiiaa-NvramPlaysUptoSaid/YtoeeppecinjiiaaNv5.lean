/-
  A device is cut.
-/
import Derived.Test.YtoeeppecinjiiaaNv3
namespace Go.Proofs.Ytoeeppecinjiiaa
open Go.RowKit

def keptOf (pending : Nat) (picks : List Int) : Nat := if 0 < picks.headD 0 then (picks.headD 0 % ((pending : Int) + 1)).toNat else 0
def undoOne (kept : Nat) (u : Und) (m : List UInt8) : List UInt8 := splat m (u.at_ + ownOf kept u.ahead u.was.length) (u.was.drop (ownOf kept u.ahead u.was.length))
def undoAll (kept : Nat) (us : List Und) (m : List UInt8) : List UInt8 := us.foldr (undoOne kept) m
def Dev.cut (D : Dev) (picks : List Int) : Dev := ⟨undoAll (keptOf D.pending picks) D.undos D.mem, [], 0⟩
theorem keptOf_le (pending : Nat) (picks : List Int) : keptOf pending picks ≤ pending := by
  unfold keptOf
  split
  · have h1 := Int.emod_nonneg (picks.headD 0) (show (pending : Int) + 1 ≠ 0 by omega)
    have h2 := Int.emod_lt_of_pos (picks.headD 0) (show 0 < (pending : Int) + 1 by omega)
    omega
  · exact Nat.zero_le _
theorem ownOf_le (kept ahead n : Nat) : ownOf kept ahead n ≤ n := Nat.min_le_right _ _
theorem undoOne_length (kept : Nat) (u : Und) (m : List UInt8) (h : u.at_ + u.was.length ≤ m.length) : (undoOne kept u m).length = m.length := by
  have := ownOf_le kept u.ahead u.was.length
  exact splat_length _ _ _ (by simp; omega)
theorem undoAll_length (kept : Nat) : ∀ (us : List Und) (m : List UInt8), (∀ u ∈ us, u.at_ + u.was.length ≤ m.length) → (undoAll kept us m).length = m.length
  | [], m, _ => rfl
  | u :: us, m, h => by
    have ih := undoAll_length kept us m (fun x hx => h x (by simp [hx]))
    show (undoOne kept u (undoAll kept us m)).length = _
    rw [undoOne_length _ _ _ (by rw [ih]; exact h u (by simp)), ih]
theorem Dev.Ok.cut {D : Dev} (h : D.Ok) (picks : List Int) : (D.cut picks).Ok := by
  have hl := undoAll_length (keptOf D.pending picks) D.undos D.mem h.fits
  exact ⟨by show 64 ≤ (undoAll _ _ _).length; rw [hl]; exact h.low, by show (undoAll _ _ _).length ≤ _; rw [hl]; exact h.high, fun u hu => by simp [Dev.cut] at hu, fun u hu => by simp [Dev.cut] at hu, fun u hu => by simp [Dev.cut] at hu, Nat.zero_le _⟩

/-- some writes, the last ones, are undone -/
def CutRel (w : World) (kept bb : Nat) (D : Dev) (j : Nat) (wr : World) : Prop := Blk wr bb (undoAll kept (D.undos.drop j) D.mem) ∧ Kept (fun b => b ≠ bb) w wr
/-- the device with other bytes -/
theorem SysAt.mem_set {w w' : World} {O : Nat → Option Tag} {pw nv bb : Nat} {P : Pow} {D : Dev} {uv : Value} (h : SysAt w O pw P nv D) (hc : Cells w nv 61 [.pointer (some ⟨pw, 0, none⟩), .slice (some ⟨bb, 0, none⟩) D.mem.length D.mem.length, uv, .int .i64 (D.pending : Int)]) (hb : O bb = some .bytes)
    {m : List UInt8} (hm : Blk w' bb m) (hl : m.length = D.mem.length) (hk : Kept (fun b => b ≠ bb) w w') : SysAt w' O pw P nv { D with mem := m } ∧ Ext w O w' O := by
  obtain ⟨bb', uv', vs, c1, t1, c2, t2, o1, o2, o3, o4⟩ := h.dev
  have e := (hc.type c1).2
  injection e with _ e
  injection e with e _
  injection e with e _ _
  injection e with e
  injection e with e _ _
  subst e
  have ha : Agree (fun t => t ≠ .bytes) w O w' O := hk.agree fun b t hb' ht e => ht (by rw [e, hb] at hb'; cases hb'; rfl)
  obtain ⟨a1, _⟩ := ha nv _ c1.lt t1 (by intro e; cases e)
  refine ⟨⟨fun b hb => Nat.lt_of_lt_of_le (h.fresh b hb) hk.size, ⟨bb, uv', vs, by simpa only [hl] using c1.move a1, t1, hm, t2, o1.move fun g hg => (ha g _ (o1.ge g hg).2 (o2 g hg) (by intro e; cases e)).1, o2, o3, fun k u hu => ?_⟩, ⟨by show 64 ≤ m.length; rw [hl]; exact h.ok.low, by show m.length ≤ _; rw [hl]; exact h.ok.high, by show ∀ u ∈ D.undos, _ ≤ m.length; rw [hl]; exact h.ok.fits, h.ok.ahead, h.ok.some_, h.ok.count⟩, h.pow.keep h.fresh hk.size ha (by intro e; cases e) (by intro e; cases e) (by intro e; cases e)⟩, hk.mono (fun b _ hb' e => by rw [e, hb] at hb'; cases hb'), fun _ _ => rfl⟩
  obtain ⟨v, hv, hu2⟩ := o4 k u hu
  exact ⟨v, hv, hu2.keep h.fresh hk.size ha (by intro e; cases e)⟩

set_option maxRecDepth 20000 in
set_option maxHeartbeats 2000000 in
theorem cut_any (pw nv : Nat) (P : Pow) (D : Dev) (O : Nat → Option Tag) (A : Option Addr) (c : Nat) (picks : List Int) (w : World) (h : SysAt w O pw P nv D) (hR : RI w w.heap.size A picks) (hA : picks ≠ [] → ∀ ad, A = some ad → O ad.block ≠ some .bytes) (hpd : D.pending ≤ 1099511627776) (hpl : picks.length ≤ 9223372036854775807) :
    Calls Try.prog 16 #[.pointer (some ⟨nv, 0, none⟩), .slice A picks.length c] w (SysPost w O pw P nv (D.cut picks) (.tuple #[])) := by
  obtain ⟨kept, hkept⟩ : ∃ kept, kept = keptOf D.pending picks := ⟨_, rfl⟩
  have hkl : kept ≤ 1099511627776 := by have := keptOf_le D.pending picks; omega
  obtain ⟨bb, uv, vs, c1, t1, c2, t2, o1, o2, o3, o4⟩ := h.dev
  obtain ⟨Au, cu, rfl, hcu, _, hrd⟩ := o1.rd
  have y1 := c1.cell (i := 1) rfl
  have y2 := c1.cell (i := 2) rfl
  have y3 := c1.cell (i := 3) rfl
  have hnb : nv ≠ bb := fun e => by rw [e, t2] at t1; cases t1
  -- what the loop needs at the write k
  have Hun : Hid (∀ k u, D.undos[k]? = some u → ∃ (ub a7 a6 a3 a4 : Nat), Au = some ⟨ub, 0, none⟩ ∧ ∀ wr, CutRel w kept bb D (k + 1) wr → wr.cell? ⟨ub, k, none⟩ = some (undoV a7 a6 a3 a4) ∧ Calls Try.prog 34 #[.int .i64 (kept : Int), .pointer (some ⟨a7, 0, none⟩), .pointer (some ⟨a6, 0, none⟩), .pointer (some ⟨a3, 0, none⟩), .pointer (some ⟨a4, 0, none⟩)] wr fun e w' => e = .returned (.tuple #[]) ∧ CutRel w kept bb D k w') := by
    intro k u hu
    obtain ⟨v, hv, a7, a6, a3, a4, Aw, cw, rfl, q7, q6, q3, q4, r7, r6, r3, r4, rb, rt, rc, rm⟩ := o4 k u hu
    obtain ⟨ub, hub, hubl, hcell⟩ := hrd k _ hv
    refine ⟨ub, a7, a6, a3, a4, hub, fun wr hrel => ?_⟩
    have hub2 : O ub = some .undos := o2 ub (by rw [hub]; rfl)
    have mv : ∀ {b i : Nat} {v : Value}, b ≠ bb → w.cell? ⟨b, i, none⟩ = some v → wr.cell? ⟨b, i, none⟩ = some v := fun hb hv => (World.cell?_of_block (w := w) (hrel.2.block _ (cell_lt hv) hb)).trans hv
    have ne : ∀ {b : Nat}, O b = some .undo → b ≠ bb := fun hb e => by rw [e, t2] at hb; cases hb
    have hlen : (undoAll kept (D.undos.drop (k + 1)) D.mem).length = D.mem.length := undoAll_length _ _ _ fun x hx => h.ok.fits x (List.mem_of_mem_drop hx)
    have hm := List.mem_of_getElem? hu
    have hfit := h.ok.fits u hm
    have hahd := h.ok.ahead u hm
    have hsome := h.ok.some_ u hm
    refine ⟨mv (fun e => by rw [e, t2] at hub2; cases hub2) hcell, ?_⟩
    refine (undo_any kept a7 a6 a3 a4 nv bb cw u.ahead u.at_ Aw u.was _ wr (mv (ne r7) q7) (mv (ne r6) q6) (mv (ne r3) q3) (mv (ne r4) q4) (by rw [hlen]; exact mv hnb y1) hrel.1 ?_ rc hsome (by rw [hlen]; exact hfit) (by rw [hlen]; exact h.ok.high) hkl (by omega) rm).mono fun e w' ⟨he, s1, s2⟩ => ⟨he, ?_, ?_⟩
    · exact (rb.kept hrel.2 (fun _ ad he => ne (rt ad he)) (Nat.le_refl _)).wide hrel.2.size
    · have hkl2 := (List.getElem?_eq_some_iff.1 hu).1
      have e : D.undos.drop k = u :: D.undos.drop (k + 1) := by
        rw [List.drop_eq_getElem_cons hkl2, (List.getElem?_eq_some_iff.1 hu).2]
      rw [e]
      exact s1
    · exact ⟨s2.os.trans hrel.2.os, s2.tape.trans hrel.2.tape, s2.output.trans hrel.2.output, Nat.le_trans hrel.2.size s2.size, fun b hb hn => (s2.block b (Nat.lt_of_lt_of_le hb hrel.2.size) hn).trans (hrel.2.block b hb hn)⟩
  have Hset : Hid (∀ wr, CutRel w kept bb D 0 wr → Calls Try.prog 29 #[.pointer (some ⟨nv, 0, none⟩)] wr (SysPost w O pw P nv (D.cut picks) (.tuple #[]))) := by
    intro wr hrel
    have hb := hrel.1
    rw [List.drop_zero] at hb
    obtain ⟨s1, s2⟩ := h.mem_set c1 t2 hb (undoAll_length _ _ _ h.ok.fits) hrel.2
    refine (settle_any pw nv P _ O wr s1).mono fun e w' ⟨O', he, q1, q2⟩ => ⟨O', he, ?_, s2.trans q2⟩
    have e : D.cut picks = Dev.settle { D with mem := undoAll kept D.undos D.mem } := by rw [hkept]; rfl
    rw [e]
    exact q1
  have Hy2 : Hid (∀ j wr, CutRel w kept bb D j wr → wr.cell? ⟨nv, 2, none⟩ = some (.slice Au vs.length cu)) := fun j wr hrel => (World.cell?_of_block (w := w) (hrel.2.block nv c1.lt hnb)).trans y2
  have Hst : Hid (∀ q, CutRel w kept bb D D.undos.length (w.drewN q)) := fun q => ⟨by rw [List.drop_length]; exact c2, (Kept.refl _ w).drewN q⟩
  obtain ⟨L, hL⟩ : ∃ L, L = D.undos.length := ⟨_, rfl⟩
  have HL := Lib.hid hL
  have hLb : (L : Int) ≤ 1099511627776 := by have := h.ok.count; omega
  rw [o3, ← hL] at y2 Hy2
  rw [← hL] at Hst
  have hpd' : (D.pending : Int) ≤ 1099511627776 := by omega
  have hkw : keptOf D.pending picks = kept := hkept.symm
  have hcase : (picks = [] ∧ kept = 0) ∨ (∃ x r, picks = x :: r ∧ ((x ≤ 0 ∧ kept = 0) ∨ (0 < x ∧ x.tmod ((D.pending : Int) + 1) = (kept : Int)))) := by
    rcases picks with _ | ⟨x, r⟩
    · refine .inl ⟨rfl, ?_⟩
      rw [← hkw]
      rfl
    · refine .inr ⟨x, r, rfl, ?_⟩
      by_cases hx : 0 < x
      · refine .inr ⟨hx, ?_⟩
        have h1 := Int.emod_nonneg x (show (D.pending : Int) + 1 ≠ 0 by omega)
        rw [Int.tmod_eq_emod_of_nonneg (by omega), ← hkw]
        unfold keptOf
        rw [if_pos (show 0 < (x :: r).headD 0 from hx)]
        show _ = ((x % ((D.pending : Int) + 1)).toNat : Int)
        omega
      · refine .inl ⟨by omega, ?_⟩
        rw [← hkw]
        unfold keptOf
        rw [if_neg (show ¬ 0 < (x :: r).headD 0 from hx)]
  have hw1 : IntKind.i64.wrap ((D.pending : Int) + 1) = (D.pending : Int) + 1 := IntWalk.i64_in _ (by omega)
  have hne : ((D.pending : Int) + 1) ≠ 0 := by omega
  have Hend : Hid (∀ k, k < L → ∃ u, D.undos[k]? = some u) := fun k hk => ⟨_, List.getElem?_eq_getElem (by rw [← hL]; exact hk)⟩
  generalize D.pending = pd at y3 hpd' hw1 hne hcase
  have hp0 : (0 : Int) ≤ (pd : Int) := by omega
  have Hloop : Hid (L = 0 ∨ ∃ m, L = m + 1) := by rcases L with _ | m; exact .inl rfl; exact .inr ⟨m, rfl⟩
  rcases hcase with ⟨rfl, hk0⟩ | ⟨x, r, rfl, ⟨hx, hk0⟩ | ⟨hx, hk0⟩⟩
  · subst hk0
    clear h hR hA hpd c1 t1 c2 t2 o1 o2 o3 o4 hrd hcu hkept hkw hL hnb y1
    go_enter Try.func16, Try.ntmps16
    go_wp2_with fail
    go_loopw [5] (fun iv wr => (iv = .int .i64 (-1) ∧ Hid (CutRel w 0 bb D 0 wr)) ∨ (∃ k : Nat, iv = .int .i64 (k : Int) ∧ k < L ∧ Hid (CutRel w 0 bb D (k + 1) wr))) (fun iv _ => (intOf iv + 1).toNat)
    case atStart =>
      rcases Hloop.out with h0 | ⟨m, h0⟩
      · have q := Hst.out 0
        rw [h0] at q ⊢
        exact .inl ⟨rfl, q⟩
      · have q := Hst.out 0
        rw [h0] at q ⊢
        exact .inr ⟨m, by congr 1; omega, by omega, q⟩
    case round =>
      rcases hrel with ⟨rfl, hrel⟩ | ⟨k, rfl, hk, hrel⟩
      · have Hs := Lib.hid (Hset.out wr hrel.out)
        go_wp2_with (go_at_call 29; refine Hs.out.mono ?_; rintro e w5 ⟨O5, rfl, q1, q2⟩; have Hq : Hid (SysPost w O pw P nv (D.cut []) (.tuple #[]) (.returned (.tuple #[])) w5) := ⟨O5, rfl, q1, q2⟩; clear q1 q2)
        go_end0
        exact Hq.out
      · obtain ⟨u, hu⟩ := Hend.out k hk
        obtain ⟨ub, a7, a6, a3, a4, rfl, hun⟩ := Hun.out k u hu
        obtain ⟨q1, q2⟩ := hun wr hrel.out
        have z2 := Hy2.out _ wr hrel.out
        have Hc := Lib.hid q2
        have hk' : (k : Int) < (L : Int) := by omega
        unfold undoV at q1
        clear q2 hun hu
        go_wp2_with (go_at_call 34; refine Hc.out.mono ?_; rintro e w5 ⟨rfl, q3⟩; have Hq3 := Lib.hid q3; clear q3)
        go_roundw
        case rel =>
          rcases k with _ | k
          · exact .inl ⟨(by first | rfl | (congr 1; omega)), Hq3.out⟩
          · exact .inr ⟨k, by congr 1; omega, by omega, Hq3.out⟩
        case measure => first | (simp [intOf]; done) | (simp [intOf]; omega)
  · subst hk0
    obtain ⟨ab, ao, rfl, _⟩ := hR.flat (by simp)
    have hx0 : w.cell? ⟨ab, ao, none⟩ = some (.int .i64 x) := by have := hR.at_ (k := 0) (by simp); simpa using this
    have hln : (0 : Int) < ((x :: r).length : Int) := by rw [List.length_cons]; omega
    generalize (x :: r).length = pn at *
    clear h hR hA hpd c1 t1 c2 t2 o1 o2 o3 o4 hrd hcu hkept hkw hL hnb y1
    go_enter Try.func16, Try.ntmps16
    go_wp2_with fail
    go_loopw [5] (fun iv wr => (iv = .int .i64 (-1) ∧ Hid (CutRel w 0 bb D 0 wr)) ∨ (∃ k : Nat, iv = .int .i64 (k : Int) ∧ k < L ∧ Hid (CutRel w 0 bb D (k + 1) wr))) (fun iv _ => (intOf iv + 1).toNat)
    case atStart =>
      rcases Hloop.out with h0 | ⟨m, h0⟩
      · have q := Hst.out 0
        rw [h0] at q ⊢
        exact .inl ⟨rfl, q⟩
      · have q := Hst.out 0
        rw [h0] at q ⊢
        exact .inr ⟨m, by congr 1; omega, by omega, q⟩
    case round =>
      rcases hrel with ⟨rfl, hrel⟩ | ⟨k, rfl, hk, hrel⟩
      · have Hs := Lib.hid (Hset.out wr hrel.out)
        go_wp2_with (go_at_call 29; refine Hs.out.mono ?_; rintro e w5 ⟨O5, rfl, q1, q2⟩; have Hq : Hid (SysPost w O pw P nv (D.cut (x :: r)) (.tuple #[]) (.returned (.tuple #[])) w5) := ⟨O5, rfl, q1, q2⟩; clear q1 q2)
        go_end0
        exact Hq.out
      · obtain ⟨u, hu⟩ := Hend.out k hk
        obtain ⟨ub, a7, a6, a3, a4, rfl, hun⟩ := Hun.out k u hu
        obtain ⟨q1, q2⟩ := hun wr hrel.out
        have z2 := Hy2.out _ wr hrel.out
        have Hc := Lib.hid q2
        have hk' : (k : Int) < (L : Int) := by omega
        unfold undoV at q1
        clear q2 hun hu
        go_wp2_with (go_at_call 34; refine Hc.out.mono ?_; rintro e w5 ⟨rfl, q3⟩; have Hq3 := Lib.hid q3; clear q3)
        go_roundw
        case rel =>
          rcases k with _ | k
          · exact .inl ⟨(by first | rfl | (congr 1; omega)), Hq3.out⟩
          · exact .inr ⟨k, by congr 1; omega, by omega, Hq3.out⟩
        case measure => first | (simp [intOf]; done) | (simp [intOf]; omega)
  · obtain ⟨ab, ao, rfl, _⟩ := hR.flat (by simp)
    have hx0 : w.cell? ⟨ab, ao, none⟩ = some (.int .i64 x) := by have := hR.at_ (k := 0) (by simp); simpa using this
    have hln : (0 : Int) < ((x :: r).length : Int) := by rw [List.length_cons]; omega
    generalize (x :: r).length = pn at *
    clear h hR hA hpd c1 t1 c2 t2 o1 o2 o3 o4 hrd hcu hkept hkw hL hnb y1
    go_enter Try.func16, Try.ntmps16
    go_wp2_with fail
    go_quiet (fail)
    go_wp2_with fail
    go_loopw [5] (fun iv wr => (iv = .int .i64 (-1) ∧ Hid (CutRel w kept bb D 0 wr)) ∨ (∃ k : Nat, iv = .int .i64 (k : Int) ∧ k < L ∧ Hid (CutRel w kept bb D (k + 1) wr))) (fun iv _ => (intOf iv + 1).toNat)
    case atStart =>
      rcases Hloop.out with h0 | ⟨m, h0⟩
      · have q := Hst.out nq
        rw [h0] at q ⊢
        exact .inl ⟨rfl, q⟩
      · have q := Hst.out nq
        rw [h0] at q ⊢
        exact .inr ⟨m, by congr 1; omega, by omega, q⟩
    case round =>
      rcases hrel with ⟨rfl, hrel⟩ | ⟨k, rfl, hk, hrel⟩
      · have Hs := Lib.hid (Hset.out wr hrel.out)
        go_wp2_with (go_at_call 29; refine Hs.out.mono ?_; rintro e w5 ⟨O5, rfl, q1, q2⟩; have Hq : Hid (SysPost w O pw P nv (D.cut (x :: r)) (.tuple #[]) (.returned (.tuple #[])) w5) := ⟨O5, rfl, q1, q2⟩; clear q1 q2)
        go_end0
        exact Hq.out
      · obtain ⟨u, hu⟩ := Hend.out k hk
        obtain ⟨ub, a7, a6, a3, a4, rfl, hun⟩ := Hun.out k u hu
        obtain ⟨q1, q2⟩ := hun wr hrel.out
        have z2 := Hy2.out _ wr hrel.out
        have Hc := Lib.hid q2
        have hk' : (k : Int) < (L : Int) := by omega
        unfold undoV at q1
        clear q2 hun hu
        go_wp2_with (go_at_call 34; refine Hc.out.mono ?_; rintro e w5 ⟨rfl, q3⟩; have Hq3 := Lib.hid q3; clear q3)
        go_roundw
        case rel =>
          rcases k with _ | k
          · exact .inl ⟨(by first | rfl | (congr 1; omega)), Hq3.out⟩
          · exact .inr ⟨k, by congr 1; omega, by omega, Hq3.out⟩
        case measure => first | (simp [intOf]; done) | (simp [intOf]; omega)
end Go.Proofs.Ytoeeppecinjiiaa

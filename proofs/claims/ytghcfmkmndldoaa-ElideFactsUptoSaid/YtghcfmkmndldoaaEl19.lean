/-
  The newest fact that is not elided, plain; the second saying's Newest.
-/
import Derived.Test.YtghcfmkmndldoaaEl17
import Derived.Test.YtghcfmkmndldoaaFa7
namespace Go.Proofs.Ytghcfmkmndldoaa
open Go.RowKit Go.Sort Go.Lib

def seqAt (fs : List Fc) (k : Nat) : Nat := match fs[k]? with | some f => f.2.1 | none => 0
theorem seqAt_of {fs : List Fc} {k : Nat} {f : Fc} (h : fs[k]? = some f) : seqAt fs k = f.2.1 := by unfold seqAt; rw [h]
/-- the place of the first fact with the greatest number, of the first i -/
def bestI (fs : List Fc) : Nat → Nat
  | 0 => 0
  | 1 => 0
  | i + 2 => if seqAt fs (bestI fs (i + 1)) < seqAt fs (i + 1) then i + 1 else bestI fs (i + 1)
theorem best_step (fs : List Fc) {i : Nat} (h : 1 ≤ i) : bestI fs (i + 1) = if seqAt fs (bestI fs i) < seqAt fs i then i else bestI fs i := by
  obtain ⟨j, rfl⟩ : ∃ j, i = j + 1 := ⟨i - 1, by omega⟩
  rw [bestI]
theorem best_lt (fs : List Fc) : ∀ {i : Nat}, 1 ≤ i → bestI fs i < i
  | 0, h => by omega
  | 1, _ => by rw [bestI]; omega
  | i + 2, _ => by
    have := best_lt fs (i := i + 1) (by omega)
    rw [bestI]
    split <;> omega
/-- the newest fact, if it is not elided -/
def newF (t : ByteArray → Nat) (fs : List Fc) : Option Fc := match fs[bestI fs fs.length]? with
  | none => none
  | some f => if f.2.1 < t f.1 then none else some f
def zeroFV : Value := .agg #[.string ⟨#[]⟩, .int .u64 0, .slice none 0 0]
theorem set3F {w : World} {b : Nat} {t : TypeId} {x y z x' y' z' : Value} (h : Cells w b t [x, y, z]) : Cells (((w.setCell ⟨b, 0, none⟩ x').setCell ⟨b, 1, none⟩ y').setCell ⟨b, 2, none⟩ z') b t [x', y', z'] := ((h.set 0 _).set 1 _).set 2 _
section
set_option maxRecDepth 100000
set_option maxHeartbeats 8000000
theorem rnewest_any (base g : Nat) (v : Value) (l : List Ec) (A : Option Addr) (c : Nat) (fs : List Fc) (w : World) (h : RefSet w base g v l) (hr : RF w w.heap.size A fs) (hl : fs.length ≤ 1099511627776) :
    Calls Try.prog 28 #[.pointer (some ⟨g, 0, none⟩), .slice A fs.length c] w fun r w' => Below w.heap.size w w' ∧
      ((newF (topE l) fs = none ∧ r = .returned (.tuple #[zeroFV, .bool false])) ∨ ∃ f V, newF (topE l) fs = some f ∧ r = .returned (.tuple #[fcV f V, .bool true]) ∧ Vb w w.heap.size V f.2.2) := by
  obtain ⟨W1, hW1⟩ : ∃ W1, W1 = w.alloc (.cells #[.string ⟨#[]⟩, .int .u64 0, .slice none 0 0] 50) := ⟨_, rfl⟩
  have hb1 : Below w.heap.size w W1 := by rw [hW1]; exact (Below.refl _ _).alloc (Nat.le_refl _) _
  have hC1 : Cells W1 w.heap.size 50 [.string ⟨#[]⟩, .int .u64 0, .slice none 0 0] := by rw [hW1]; exact Cells.new w _ _
  have H0 : Hid (RefSet w base g v l ∧ RF w w.heap.size A fs ∧ Below w.heap.size w W1 ∧ Cells W1 w.heap.size 50 [.string ⟨#[]⟩, .int .u64 0, .slice none 0 0]) := ⟨h, hr, hb1, hC1⟩
  have y0 := hC1.cell (i := 0) rfl
  have y1 := hC1.cell (i := 1) rfl
  have y2 := hC1.cell (i := 2) rfl
  have z0 := hC1.frozen 0
  have z1 := hC1.frozen 1
  have z2 := hC1.frozen 2
  have hl' : (fs.length : Int) ≤ 1099511627776 := by omega
  have Hlen : Hid (∀ k : Nat, k < fs.length → ∃ u, fs[k]? = some u) := fun k hk => ⟨_, List.getElem?_eq_getElem hk⟩
  obtain ⟨n, hn⟩ : ∃ n, n = fs.length := ⟨_, rfl⟩
  rw [← hn] at hl' Hlen ⊢
  have Hn := Lib.hid hn
  clear h hr hb1 hC1 hl hn
  by_cases h0 : n = 0
  · have hne : newF (topE l) fs = none := by
      unfold newF
      have : fs = [] := List.eq_nil_of_length_eq_zero (by have := Hn.out; omega)
      rw [this]
      rfl
    have Hne := Lib.hid hne
    have h0' : ((n : Int) == 0) = true := by simp [h0]
    clear hne h0
    rw [hW1] at y0 y1 y2 z0 z1 z2
    go_enter Try.func28, Try.ntmps28
    go_wp2_with fail
    rw [← hW1] at y0 y1 y2 ⊢
    exact bodyPost_ret (v := .tuple #[.agg #[.string ⟨#[]⟩, .int .u64 0, .slice none 0 0], .bool false]) (by simp [results, Try.results28, go_sem, y0, y1, y2]) rfl ⟨H0.out.2.2.1, .inl ⟨Hne.out, rfl⟩⟩
  · have h0' : ((n : Int) == 0) = false := by rw [beq_eq_false_iff_ne]; omega
    have h01 : 1 ≤ n := by omega
    clear h0
    go_enter Try.func28, Try.ntmps28
    rw [hW1] at y0 y1 y2 z0 z1 z2
    go_wp2_with fail
    go_loopw [6, 7] (fun kv iv wr => ∃ i : Nat, iv = .int .i64 (i : Int) ∧ kv = .int .i64 (bestI fs i : Int) ∧ 1 ≤ i ∧ i ≤ n ∧ Hid (Below W1.heap.size W1 wr)) (fun _ iv _ => n - (intOf iv).toNat)
    case atStart => exact ⟨1, rfl, rfl, Nat.le_refl _, h01, by rw [← hW1]; exact Below.refl _ _⟩
    case round =>
      obtain ⟨i, rfl, rfl, hi1, hi, hb⟩ := hrel
      have hbw : Below w.heap.size w wr := H0.out.2.2.1.trans (hb.out.mono H0.out.2.2.1.size)
      have Hbw := Lib.hid hbw
      have hk := best_lt fs hi1
      have Hst := Lib.hid (best_step fs hi1)
      obtain ⟨k, hkk⟩ : ∃ k, k = bestI fs i := ⟨_, rfl⟩
      rw [← hkk] at hk Hst ⊢
      obtain ⟨f, hf⟩ := Hlen.out k (by omega)
      obtain ⟨b, o, V, rfl, hblt, x0, x1, x2, hV, hs64⟩ := (H0.out.2.1.below hbw).at_ hf
      have hkn : (k : Int) < (n : Int) := by omega
      by_cases hlt : i < n
      · obtain ⟨f', hf'⟩ := Hlen.out i hlt
        obtain ⟨b', o', V', e', _, x0', x1', x2', _, _⟩ := (H0.out.2.1.below hbw).at_ hf'
        cases e'
        have hlt' : (i : Int) < (n : Int) := by omega
        rw [seqAt_of hf, seqAt_of hf'] at Hst
        have Hm : Hid (i + 1 ≤ n ∧ 1 ≤ i + 1 ∧ i < n) := ⟨by omega, by omega, hlt⟩
        generalize f.2.1 = s at *
        generalize f'.2.1 = s' at *
        clear hf hf' hlt hbw hblt hV hs64 hk
        by_cases hq : s < s'
        · have hq' : (s' : Int) > (s : Int) := by omega
          have Hk2 : Hid (bestI fs (i + 1) = i) := by show _ = _; rw [Hst.out, if_pos hq]
          clear hq hkk Hst
          go_upto_region 7 with fail
          go_quiet (fail)
          go_wp2_with fail
          go_roundw
          case rel => exact ⟨i + 1, by go_num, by rw [Hk2.out], Hm.out.2.1, Hm.out.1, below_dr hb.out nq⟩
          case measure => have := Hm.out.2.2; simp [intOf]; omega
        · have hq' : ¬ (s' : Int) > (s : Int) := by omega
          have Hk2 : Hid (bestI fs (i + 1) = k) := by show _ = _; rw [Hst.out, if_neg hq]
          clear hq hkk Hst
          go_upto_region 7 with fail
          go_quiet (fail)
          go_wp2_with fail
          go_roundw
          case rel => exact ⟨i + 1, by go_num, by rw [Hk2.out], Hm.out.2.1, Hm.out.1, below_dr hb.out nq⟩
          case measure => have := Hm.out.2.2; simp [intOf]; omega
      · obtain rfl : i = n := by omega
        have HHas : Hid (∀ W, (W = wr ∨ W = wr.drew) → Calls Try.prog 21 #[.pointer (some ⟨g, 0, none⟩), .string f.1, .int .u64 (f.2.1 : Int)] W fun r w' => r = .returned (.bool (decide (f.2.1 < topE l f.1))) ∧ Below wr.heap.size wr w') := fun W hW => by
          rcases hW with rfl | rfl
          · exact rhas_any base g v l f.1 f.2.1 _ (H0.out.1.below hbw)
          · refine (rhas_any base g v l f.1 f.2.1 wr.drew ((H0.out.1.below hbw).below ((Below.refl _ _).drew))).mono ?_
            rintro r w' ⟨rfl, hb9⟩
            exact ⟨rfl, ((Below.refl _ _).drew).trans hb9⟩
        have Hnew : Hid (newF (topE l) fs = if f.2.1 < topE l f.1 then none else some f) := by
          show _ = _
          unfold newF
          rw [← Hn.out, ← hkk, hf]
        have Hx : Hid (∀ W, Below wr.heap.size wr W → (W.cell? ⟨b, o + k * 3, none⟩ = some (.string f.1) ∧ W.cell? ⟨b, o + k * 3 + 1, none⟩ = some (.int .u64 (f.2.1 : Int)) ∧ W.cell? ⟨b, o + k * 3 + 2, none⟩ = some V) ∧ Cells W w.heap.size 50 [.string ⟨#[]⟩, .int .u64 0, .slice none 0 0] ∧ Below w.heap.size w W) := fun W hW => by
          have hbW : Below W1.heap.size W1 W := hb.out.trans (hW.mono hb.out.size)
          have hwW : Below w.heap.size w W := hbw.trans (hW.mono hbw.size)
          have hblt2 : b < wr.heap.size := Nat.lt_of_lt_of_le hblt hbw.size
          exact ⟨⟨(hW.cell (p := ⟨b, o + k * 3, none⟩) hblt2).trans x0, (hW.cell (p := ⟨b, o + k * 3 + 1, none⟩) hblt2).trans x1, (hW.cell (p := ⟨b, o + k * 3 + 2, none⟩) hblt2).trans x2⟩, H0.out.2.2.2.move (hbW.block _ H0.out.2.2.2.lt), hwW⟩
        have HV : Hid (∃ V0, V = V0 ∧ Vb w w.heap.size V f.2.2) := by
          obtain ⟨b', o', V', e', _, _, _, q2, qV, _⟩ := H0.out.2.1.at_ hf
          cases e'
          have : V' = V := by
            have q := (hbw.cell (p := ⟨b, o + k * 3 + 2, none⟩) hblt).trans q2
            rw [x2] at q
            exact (Option.some.inj q).symm
          exact ⟨V, rfl, by rw [← this]; exact qV⟩
        obtain ⟨A9, c9, rfl, _⟩ := hV
        have d0 : wr.drew.cell? ⟨b, o + k * 3, none⟩ = some (.string f.1) := x0
        have d1 : wr.drew.cell? ⟨b, o + k * 3 + 1, none⟩ = some (.int .u64 (f.2.1 : Int)) := x1
        clear hf hbw hblt hs64 hk hkk Hst x2 hlt
        by_cases hq : f.2.1 < topE l f.1
        · rw [decide_eq_true hq] at HHas
          have Hne : Hid (newF (topE l) fs = none) := by show _ = _; rw [Hnew.out, if_pos hq]
          clear Hnew hq HV
          go_upto_region 9 with fail
          go_region_with (go_at_call 21; refine (HHas.out _ (by first | exact .inl (by with_reducible rfl) | exact .inr (by with_reducible rfl))).mono ?_; rintro e w3 ⟨rfl, h3⟩; obtain ⟨⟨u0, u1, u2⟩, hC3, hbw3⟩ := Hx.out w3 h3; have v0 := hC3.cell (i := 0) rfl; have v1 := hC3.cell (i := 1) rfl; have v2 := hC3.cell (i := 2) rfl; have t0 := hC3.frozen 0; have t1 := hC3.frozen 1; have t2 := hC3.frozen 2; have H3 : Hid (Cells w3 w.heap.size 50 [.string ⟨#[]⟩, .int .u64 0, .slice none 0 0] ∧ Below w.heap.size w w3) := ⟨hC3, hbw3⟩; clear h3 hC3 hbw3)
          all_goals
            go_wp2_with fail
            have hst : Cells (((w3.setCell ⟨w.heap.size, 0, none⟩ (.string ⟨#[]⟩)).setCell ⟨w.heap.size, 1, none⟩ (.int .u64 0)).setCell ⟨w.heap.size, 2, none⟩ (.slice none 0 0)) w.heap.size 50 [(.string ⟨#[]⟩), (.int .u64 0), (.slice none 0 0)] := set3F H3.out.1
            have hbel : Below w.heap.size w (((w3.setCell ⟨w.heap.size, 0, none⟩ (.string ⟨#[]⟩)).setCell ⟨w.heap.size, 1, none⟩ (.int .u64 0)).setCell ⟨w.heap.size, 2, none⟩ (.slice none 0 0)) := below_set3 H3.out.2 (Nat.le_refl _) _ _ _
            clear v0 v1 v2 t0 t1 t2
            generalize (((w3.setCell ⟨w.heap.size, 0, none⟩ (.string ⟨#[]⟩)).setCell ⟨w.heap.size, 1, none⟩ (.int .u64 0)).setCell ⟨w.heap.size, 2, none⟩ (.slice none 0 0)) = Wf at hst hbel ⊢
            have q0 := hst.cell (i := 0) rfl
            have q1 := hst.cell (i := 1) rfl
            have q2 := hst.cell (i := 2) rfl
            exact bodyPost_ret (v := .tuple #[.agg #[(.string ⟨#[]⟩), (.int .u64 0), (.slice none 0 0)], .bool false]) (by simp [results, Try.results28, go_sem, q0, q1, q2]) rfl ⟨hbel, .inl ⟨Hne.out, rfl⟩⟩
        · rw [decide_eq_false hq] at HHas
          have Hne : Hid (newF (topE l) fs = some f) := by show _ = _; rw [Hnew.out, if_neg hq]
          obtain ⟨V0, eV0, qV⟩ := HV.out
          have HVb : Hid (Vb w w.heap.size (.slice A9 f.2.2.length c9) f.2.2) := qV
          clear Hnew hq HV eV0 qV
          go_upto_region 9 with fail
          go_region_with (go_at_call 21; refine (HHas.out _ (by first | exact .inl (by with_reducible rfl) | exact .inr (by with_reducible rfl))).mono ?_; rintro e w3 ⟨rfl, h3⟩; obtain ⟨⟨u0, u1, u2⟩, hC3, hbw3⟩ := Hx.out w3 h3; have v0 := hC3.cell (i := 0) rfl; have v1 := hC3.cell (i := 1) rfl; have v2 := hC3.cell (i := 2) rfl; have t0 := hC3.frozen 0; have t1 := hC3.frozen 1; have t2 := hC3.frozen 2; have H3 : Hid (Cells w3 w.heap.size 50 [.string ⟨#[]⟩, .int .u64 0, .slice none 0 0] ∧ Below w.heap.size w w3) := ⟨hC3, hbw3⟩; clear h3 hC3 hbw3)
          all_goals
            go_wp2_with fail
            have hst : Cells (((w3.setCell ⟨w.heap.size, 0, none⟩ (.string f.1)).setCell ⟨w.heap.size, 1, none⟩ (.int .u64 (f.2.1 : Int))).setCell ⟨w.heap.size, 2, none⟩ (.slice A9 f.2.2.length c9)) w.heap.size 50 [(.string f.1), (.int .u64 (f.2.1 : Int)), (.slice A9 f.2.2.length c9)] := set3F H3.out.1
            have hbel : Below w.heap.size w (((w3.setCell ⟨w.heap.size, 0, none⟩ (.string f.1)).setCell ⟨w.heap.size, 1, none⟩ (.int .u64 (f.2.1 : Int))).setCell ⟨w.heap.size, 2, none⟩ (.slice A9 f.2.2.length c9)) := below_set3 H3.out.2 (Nat.le_refl _) _ _ _
            clear v0 v1 v2 t0 t1 t2
            generalize (((w3.setCell ⟨w.heap.size, 0, none⟩ (.string f.1)).setCell ⟨w.heap.size, 1, none⟩ (.int .u64 (f.2.1 : Int))).setCell ⟨w.heap.size, 2, none⟩ (.slice A9 f.2.2.length c9)) = Wf at hst hbel ⊢
            have q0 := hst.cell (i := 0) rfl
            have q1 := hst.cell (i := 1) rfl
            have q2 := hst.cell (i := 2) rfl
            exact bodyPost_ret (v := .tuple #[.agg #[(.string f.1), (.int .u64 (f.2.1 : Int)), (.slice A9 f.2.2.length c9)], .bool true]) (by simp [results, Try.results28, go_sem, q0, q1, q2]) rfl ⟨hbel, .inr ⟨f, _, Hne.out, rfl, HVb.out⟩⟩
end
end Go.Proofs.Ytghcfmkmndldoaa

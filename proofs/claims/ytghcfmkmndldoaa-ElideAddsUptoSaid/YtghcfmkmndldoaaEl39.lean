/-
  Add: the walk.
-/
import Derived.Test.YtghcfmkmndldoaaEl38
import Derived.Deep.RegionHeldLaw
namespace Go.Proofs.Ytghcfmkmndldoaa
open Go.RowKit Go.Sort Go.Lib

theorem OwnE.notPSet {w : World} {base g : Nat} {v u : Value} {es : List Ec} (h : OwnE w base v es) (hc : Cells w g 65 [u]) : v.ownBlock ≠ some g := fun e => by
  rcases h.2 with ⟨e1, _⟩ | ⟨b, cap, cur, e1, _, hh, _⟩
  · rw [e1] at e; cases e
  · rw [e1] at e
    cases e
    unfold Cells at hc
    rw [hh] at hc
    cases hc
/-- what Add leaves -/
def AddP (w w' : World) (base g : Nat) (l : List Ec) (e : Ec) : Prop := Below base w w' ∧ ∃ out, SetAt w' base g out ∧ (∀ j, topE out j = max (topE l j) (if covE e j = true then e.2.2 + 1 else 0)) ∧ out.length ≤ 3 * l.length + 2
/-- what lies between -/
structure MidP (w4 w' : World) (A6 : Option Addr) (m c6 : Nat) (seg out : List Ec) (e : Ec) : Prop where
  own : OwnE w' w4.heap.size (.slice A6 m c6) out
  hm : m = out.length
  mid : MidE seg out e
  len : out.length ≤ 2 * (seg.length + 1)
  bel : Below w4.heap.size w4 w'
theorem both_mid {w4 X : World} {As : Option Addr} {cs k b2 : Nat} {seg : List Ec} {e : Ec} (hk : k = seg.length) (hX : Below w4.heap.size w4 X) (hr : RE X X.heap.size As seg) (hc : seg.length ≤ cs) (he : RE X X.heap.size (some ⟨b2, 0, none⟩) [e]) (hp : PlainE seg) (hok : kl e.1 e.2.1) (hl : seg.length ≤ 1000000000) :
    Calls Try.prog 38 #[.slice As k cs, .slice (some ⟨b2, 0, none⟩) 1 1] X fun r w' => ∃ A6 m c6 out, r = .returned (.slice A6 m c6) ∧ MidP w4 w' A6 m c6 seg out e := by
  subst hk
  refine (both_any As (some ⟨b2, 0, none⟩) cs 1 seg [e] X hr he hc (Nat.le_refl _) hp (plain_one hok) (by simp; omega)).mono ?_
  rintro r w' ⟨v, out, rfl, hm⟩
  obtain ⟨A6, c6, rfl, _⟩ := hm.own.rd
  exact ⟨A6, _, c6, out, rfl, hm.own.wideB hX.size, rfl, ⟨hp, hm.plain, hok, fun j => by rw [hm.top, top_one hok]⟩, by have := hm.len; simpa using this, hX.trans (hm.bel.mono hX.size)⟩
theorem rep_add {w w4 X : World} {base g n a b c m c6 : Nat} {A A6 : Option Addr} {l out : List Ec} {e : Ec} (hw : Below w.heap.size w w4) (hb : base ≤ w.heap.size) (hS : SetAt w4 base g l) (hg : Cells w4 g 65 [.slice A n c]) (ho : OwnE w4 base (.slice A n c) l) (hn : n = l.length) (hl : l.length ≤ 1000000000)
    (hab : a ≤ b) (hbn : b ≤ n) (ha : ∀ i x, l[i]? = some x → i < a → kl x.2.1 e.1) (hbb : ∀ i x, l[i]? = some x → b ≤ i → kl e.2.1 x.1) (hM : MidP w4 X A6 m c6 ((l.take b).drop a) out e) :
    Calls Try.prog 37 #[.slice A n c, .int .i64 (a : Int), .int .i64 (b : Int), .slice A6 m c6] X fun r w' => ∃ A7 n7 c7, r = .returned (.slice A7 n7 c7) ∧ Cells w' g 65 [.slice A n c] ∧ AddP w (w'.setCell ⟨g, 0, none⟩ (.slice A7 n7 c7)) base g l e := by
  have hsl : ((l.take b).drop a).length ≤ n := by rw [List.length_drop, List.length_take]; omega
  have h0 : 0 < m := by
    rw [hM.hm]
    rcases Nat.eq_zero_or_pos out.length with q | q
    · have h1 := hM.mid.top e.1
      rw [List.eq_nil_of_length_eq_zero q, if_pos (covE_lo hM.mid.ok)] at h1
      have h2 : topE [] e.1 = 0 := rfl
      omega
    · exact q
  have hlen := hM.len
  have hwX := hw.size
  have hXs := hM.bel.size
  refine (replace_any base w4.heap.size A A6 n a b c m c6 l out X (ho.below hM.bel) hn hab hbn hM.own hM.hm (fun k hk q => by
    have h1 := (ho.ge k hk).2
    have h2 := (hM.own.ge k q).1
    omega) (by omega) (by have := hM.hm; omega) h0).mono ?_
  rintro r w' ⟨v', rfl, ho', hk⟩
  obtain ⟨A7, c7, rfl, _⟩ := ho'.rd
  have hgX := hg.move (hM.bel.block _ hg.lt)
  have hg' : Cells w' g 65 [.slice A n c] := hgX.move (hk.block _ hgX.lt ((ho.below hM.bel).notPSet hgX))
  have hp := add_plain hS.plain hab ha hbb hM.mid
  have hge := hS.ge
  have hB : Below base w w' := ((hw.mono hb).trans (hM.bel.mono (by omega))).trans (hk.to_below (fun k hkb q => by have := ((ho.below hM.bel).ge k q).1; omega) (by omega))
  refine ⟨A7, _, c7, rfl, hg', ⟨hB.os, hB.tape, hB.output, by have := hB.size; simpa using this, fun k hk9 => ?_⟩, _, ⟨⟨_, hg'.set 0 _, ho'.move fun k hk9 => Below.heap_setCell _ _ _ _ (fun q => ho'.notPSet hg' (by rw [hk9]; exact congrArg some q))⟩, hp.1, hge, ?_⟩, hp.2, ?_⟩
  · rw [Below.heap_setCell _ _ _ _ (fun q => by have : k = g := q; omega)]
    exact hB.block k hk9
  · simp only [List.length_append, List.length_take, List.length_drop]; omega
  · simp only [List.length_append, List.length_take, List.length_drop]; omega
section
set_option maxRecDepth 100000
set_option maxHeartbeats 8000000
theorem add_any (e : Ec) (base g : Nat) (l : List Ec) (w : World) (h : SetAt w base g l) (hb : base ≤ w.heap.size) (hl : l.length ≤ 1000000000) :
    Calls Try.prog 11 #[.pointer (some ⟨g, 0, none⟩), eV e] w fun r w' => r = .returned (.int .i64 (chkE e)) ∧ ((chkE e = 0 ∧ AddP w w' base g l e) ∨ (chkE e = 1 ∧ Below w.heap.size w w')) := by
  obtain ⟨W1, hW1⟩ : ∃ W1, W1 = w.alloc (.cells #[.string e.1, .string e.2.1, .int .u64 (e.2.2 : Int)] 32) := ⟨_, rfl⟩
  have hb1 : Below w.heap.size w W1 := by rw [hW1]; exact (Below.refl _ _).alloc (Nat.le_refl _) _
  have hC1 : Cells W1 w.heap.size 32 (cellE e) := by rw [hW1]; exact Cells.new w _ _
  have HCk := Lib.hid (check_any e W1)
  have H0 : Hid (SetAt w base g l ∧ base ≤ w.heap.size ∧ l.length ≤ 1000000000 ∧ Below w.heap.size w W1 ∧ Cells W1 w.heap.size 32 (cellE e)) := ⟨h, hb, hl, hb1, hC1⟩
  have Hz := Lib.hid (chk_zero (e := e))
  have e0 := hC1.cell (i := 0) rfl
  have e1 := hC1.cell (i := 1) rfl
  have e2 := hC1.cell (i := 2) rfl
  have hce : chkE e = 0 ∨ chkE e = 1 := by unfold chkE; split <;> simp
  unfold eV at HCk ⊢
  clear h hb hl hb1 hC1
  rw [hW1] at e0 e1 e2
  go_enter Try.func11, Try.ntmps11
  go_wp2_with fail
  rw [← hW1]
  clear hW1 e0 e1 e2
  refine HCk.out.mono ?_
  rintro r w2 ⟨rfl, hb2⟩
  have hbw2 : Below w.heap.size w w2 := H0.out.2.2.2.1.trans (hb2.mono H0.out.2.2.2.1.size)
  have H2 : Hid (Below w.heap.size w w2 ∧ SetAt w2 base g l ∧ Cells w2 w.heap.size 32 (cellE e)) := ⟨hbw2, H0.out.1.below hbw2, H0.out.2.2.2.2.move (hb2.block _ H0.out.2.2.2.2.lt)⟩
  clear hb2 hbw2 HCk
  rcases hce with hce | hce
  · have Hce := Lib.hid hce
    have Hok := Lib.hid (Hz.out.1 hce)
    have HA := Lib.hid (addA_cnt e w.heap.size g base l w2 H2.out.2.1 (mono_A H2.out.2.1.plain e) H2.out.2.2)
    rw [hce]
    clear hce Hz
    go_wp2_with fail
    refine HA.out.mono ?_
    rintro r w3 ⟨a, rfl, ha, hb3⟩
    have H3 : Hid (Below w.heap.size w w3 ∧ SetAt w3 base g l ∧ Cells w3 w.heap.size 32 (cellE e) ∧ CntP l (fun x => Op.bytesLess x.2.1.toList e.1.toList) a) := ⟨H2.out.1.trans (hb3.mono H2.out.1.size), H2.out.2.1.below hb3, H2.out.2.2.move (hb3.block _ H2.out.2.2.lt), ha⟩
    clear ha hb3 HA H2
    have HB := Lib.hid (addB_cnt e w.heap.size g base l w3 H3.out.2.1 (mono_B H3.out.2.1.plain e) H3.out.2.2.1)
    go_wp2_with fail
    refine HB.out.mono ?_
    rintro r w4 ⟨b, rfl, hb, hb4⟩
    have hcut := add_cuts H3.out.2.1.plain Hok.out H3.out.2.2.2 hb
    have hbw4 : Below w.heap.size w w4 := H3.out.1.trans (hb4.mono H3.out.1.size)
    have hS4 := H3.out.2.1.below hb4
    have hC4 := H3.out.2.2.1.move (hb4.block _ H3.out.2.2.1.lt)
    have hbl := hb.1
    clear hb hb4 HB H3
    obtain ⟨v, hg, ho⟩ := hS4.cell
    obtain ⟨A, c, rfl, hlc, hA0, hr, _, hfl⟩ := ho.rd
    obtain ⟨n, hn⟩ : ∃ n, n = l.length := ⟨_, rfl⟩
    rw [← hn] at hg ho hlc hbl
    obtain ⟨Y, hY⟩ : ∃ Y, Y = w4.alloc (.cells #[.string e.1, .string e.2.1, .int .u64 (e.2.2 : Int)] 32) := ⟨_, rfl⟩
    have hYb : Below w4.heap.size w4 Y := by rw [hY]; exact (Below.refl _ _).alloc (Nat.le_refl _) _
    have hYr : RE Y Y.heap.size (some ⟨w4.heap.size, 0, none⟩) [e] := by rw [hY]; exact (RE.one w4 e).wide (by simp)
    have hl9 := H0.out.2.2.1
    have hsl : ((l.take b).drop a).length = b - a := by rw [List.length_drop, List.length_take]; omega
    have HBo : Hid (∀ As cs X, (X = Y ∨ X = Y.drew) → RE w4 w4.heap.size As ((l.take b).drop a) → b - a ≤ cs → Calls Try.prog 38 #[.slice As ((b - a : Nat) : Nat) cs, .slice (some ⟨w4.heap.size, 0, none⟩) 1 1] X fun r w' => ∃ A6 m c6 out, r = .returned (.slice A6 m c6) ∧ MidP w4 w' A6 m c6 ((l.take b).drop a) out e) := fun As cs X hX hRE hcs => by
      have hXb : Below w4.heap.size w4 X := by rcases hX with rfl | rfl; exact hYb; exact hYb.drew
      have hXr : RE X X.heap.size (some ⟨w4.heap.size, 0, none⟩) [e] := by rcases hX with rfl | rfl; exact hYr; exact hYr
      exact both_mid hsl.symm hXb (hRE.now hXb) (by omega) hXr (hS4.plain.sub ((List.drop_sublist _ _).trans (List.take_sublist _ _))) Hok.out (by omega)
    have HRp : Hid (∀ A6 m c6 out w6 X, (X = w6 ∨ X = w6.drew) → MidP w4 w6 A6 m c6 ((l.take b).drop a) out e → Calls Try.prog 37 #[.slice A n c, .int .i64 (a : Int), .int .i64 (b : Int), .slice A6 m c6] X fun r w' => ∃ A7 n7 c7, r = .returned (.slice A7 n7 c7) ∧ Cells w' g 65 [.slice A n c] ∧ AddP w (w'.setCell ⟨g, 0, none⟩ (.slice A7 n7 c7)) base g l e) := fun A6 m c6 out w6 X hX hM => by
      have hMX : MidP w4 X A6 m c6 ((l.take b).drop a) out e := by
        rcases hX with rfl | rfl
        · exact hM
        · exact ⟨hM.own, hM.hm, hM.mid, hM.len, hM.bel.drew⟩
      exact rep_add hbw4 H0.out.2.1 hS4 hg ho hn H0.out.2.2.1 hcut.1 hbl hcut.2.1 hcut.2.2 hMX
    have Hg6 : Hid (∀ w6, Below w4.heap.size w4 w6 → w6.cell? ⟨g, 0, none⟩ = some (.slice A n c)) := fun w6 h6 => (hg.move (h6.block _ hg.lt)).cell (i := 0) rfl
    have e0 := hC4.cell (i := 0) rfl
    have e1 := hC4.cell (i := 1) rfl
    have e2 := hC4.cell (i := 2) rfl
    have g0 := hg.cell (i := 0) rfl
    have d0 : w4.drew.cell? ⟨w.heap.size, 0, none⟩ = some (.string e.1) := e0
    have d1 : w4.drew.cell? ⟨w.heap.size, 1, none⟩ = some (.string e.2.1) := e1
    have d2 : w4.drew.cell? ⟨w.heap.size, 2, none⟩ = some (.int .u64 (e.2.2 : Int)) := e2
    have d3 : w4.drew.cell? ⟨g, 0, none⟩ = some (.slice A n c) := g0
    have d4 : Y.cell? ⟨g, 0, none⟩ = some (.slice A n c) := Hg6.out _ hYb
    have hcmx : c ≤ maxLen ∨ c = 0 := by
      rcases ho.2 with ⟨e9, _⟩ | ⟨g9, cap, cur, e9, _, _, h1, h2, _⟩
      · cases e9; right; rfl
      · cases e9; left; exact h2
    have hc9 : c ≤ 9223372036854775807 := by rcases hcmx with q | q <;> (try simp only [maxLen] at q) <;> omega
    have hab := hcut.1
    have hab' : (a : Int) ≤ (b : Int) := by omega
    have hbn' : (b : Int) ≤ (n : Int) := by omega
    have hbc' : (b : Int) ≤ (c : Int) := by omega
    have hac' : (a : Int) ≤ (c : Int) := by omega
    rw [hY] at HBo d4
    rcases Decidable.em (c = a) with hca | hca
    · obtain rfl : b = a := by omega
      have HB1 := Lib.hid (fun X hX => HBo.out A 0 X hX (by rw [List.drop_eq_nil_of_le (by rw [List.length_take]; omega)]; exact RE.nil _ _ _) (by omega))
      rw [Nat.sub_self] at HB1
      subst hca
      clear hcmx hab hcut hS4 hC4 hbl hg ho hlc hA0 hr hfl hY hYb hYr hl9 hsl HBo hn hbw4
      generalize (l.take c).drop c = seg at HB1 HRp
      go_upto_region 6 with fail
      go_region_law (first
        | (go_simp; go_at_call 38; refine (HB1.out _ (by first | exact .inl (by with_reducible rfl) | exact .inr (by with_reducible rfl))).mono ?_; rintro e9 w6 ⟨A6, m6, c6, out, rfl, hm6⟩; have H6 := Lib.hid hm6; have x6 := Hg6.out w6 H6.out.bel; have y6 : w6.drew.cell? ⟨g, 0, none⟩ = some (.slice A n c) := x6; clear hm6)
        | (go_simp; go_at_call 37; refine (HRp.out A6 m6 c6 out w6 _ (by first | exact .inl (by with_reducible rfl) | exact .inr (by with_reducible rfl)) H6.out).mono ?_; rintro e9 w7 ⟨A7, n7, c7, rfl, hc7, h7⟩; have H7 := Lib.hid h7; have x7 := hc7.cell (i := 0) rfl; have z7 := hc7.frozen 0; clear hc7 h7))
      all_goals
        go_wp2_with fail
        go_ret
        exact ⟨by rw [Hce.out]; rfl, .inl ⟨Hce.out, H7.out⟩⟩
    · obtain ⟨gb, rfl⟩ : ∃ gb, A = some ⟨gb, 0, none⟩ := by
        rcases ho.2 with ⟨e9, _⟩ | ⟨g9, cap, cur, e9, _⟩
        · cases e9; omega
        · cases e9; exact ⟨g9, rfl⟩
      have HB1 := Lib.hid (fun X hX => HBo.out (some ⟨gb, a * 3, none⟩) (c - a) X hX (by have := (hr.take b).cut a; rwa [Nat.zero_add] at this) (by omega))
      clear hcmx hab hcut hS4 hC4 hbl hg ho hlc hA0 hr hfl hY hYb hYr hl9 hsl HBo hn hbw4
      generalize (l.take b).drop a = seg at HB1 HRp
      go_upto_region 6 with fail
      go_region_law (first
        | (go_simp; go_at_call 38; refine (HB1.out _ (by first | exact .inl (by with_reducible rfl) | exact .inr (by with_reducible rfl))).mono ?_; rintro e9 w6 ⟨A6, m6, c6, out, rfl, hm6⟩; have H6 := Lib.hid hm6; have x6 := Hg6.out w6 H6.out.bel; have y6 : w6.drew.cell? ⟨g, 0, none⟩ = some (.slice (some ⟨gb, 0, none⟩) n c) := x6; clear hm6)
        | (go_simp; go_at_call 37; refine (HRp.out A6 m6 c6 out w6 _ (by first | exact .inl (by with_reducible rfl) | exact .inr (by with_reducible rfl)) H6.out).mono ?_; rintro e9 w7 ⟨A7, n7, c7, rfl, hc7, h7⟩; have H7 := Lib.hid h7; have x7 := hc7.cell (i := 0) rfl; have z7 := hc7.frozen 0; clear hc7 h7))
      all_goals
        go_wp2_with fail
        go_ret
        exact ⟨by rw [Hce.out]; rfl, .inl ⟨Hce.out, H7.out⟩⟩
  · have Hce := Lib.hid hce
    have Hn : Hid (chkE e = 1) := hce
    rw [hce]
    clear hce Hz
    go_wp2_with fail
    go_ret
    exact ⟨by rw [Hce.out]; rfl, .inr ⟨Hn.out, H2.out.1⟩⟩
end
end Go.Proofs.Ytghcfmkmndldoaa

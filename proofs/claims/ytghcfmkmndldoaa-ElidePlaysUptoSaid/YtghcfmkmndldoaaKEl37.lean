/-
  slices.Insert and slices.Replace at elisions, for owned slices.
-/
import Derived.Test.YtghcfmkmndldoaaKEl29
import Derived.Test.YtghcfmkmndldoaaKEl13
import Derived.Test.YtghcfmkmndldoaaKEl9
import Derived.Deep.RegionHeldLaw
import Derived.Test.YtghcfmkmndldoaaKEl17
namespace Go.Proofs.Ytghcfmkmndldoaa
open Go.RowKit Go.Sort Go.Lib

section
set_option maxRecDepth 100000
set_option maxHeartbeats 8000000
theorem insert_any (base base2 : Nat) (A A2 : Option Addr) (n i c m uc : Nat) (es fs : List Ec) (w : World) (ho : OwnE w base (.slice A n c) es) (hn : n = es.length) (hi : i ≤ n) (hu : OwnE w base2 (.slice A2 m uc) fs) (hm : m = fs.length)
    (hne : ∀ b, (Value.slice A n c).ownBlock = some b → (Value.slice A2 m uc).ownBlock ≠ some b) (hbase : base ≤ w.heap.size) (hl : n + m ≤ 1000000000000) (hm0 : 0 < m) :
    Calls Try.prog 57 #[.slice A n c, .int .i64 (i : Int), .slice A2 m uc] w fun r w' => ∃ v', r = .returned v' ∧ OwnE w' base v' (es.take i ++ fs ++ es.drop i) ∧ Kept (fun k => (Value.slice A n c).ownBlock ≠ some k) w w' ∧ NewOr w (Value.slice A n c).ownBlock v' := by
  by_cases hin2 : i = n
  · exact insert_end base base2 A A2 n i c m uc es fs w ho hn hi hu hm hne hbase hl (by omega) hin2
  · obtain ⟨g, rfl⟩ : ∃ g, A = some ⟨g, 0, none⟩ := by
      rcases ho.2 with ⟨e, h0⟩ | ⟨g, cap, cur, e, _⟩
      · omega
      · cases e; exact ⟨g, rfl⟩
    obtain ⟨g2, rfl⟩ : ∃ g2, A2 = some ⟨g2, 0, none⟩ := by
      rcases hu.2 with ⟨e, h0⟩ | ⟨g, cap, cur, e, _⟩
      · omega
      · cases e; exact ⟨g, rfl⟩
    obtain ⟨L, hR, hLt, hbg, hnc, hcm, _⟩ := ho.row
    obtain ⟨L2, hR2, hL2t, hbg2, hmu, _, _⟩ := hu.row
    have T : TwoR w base g g2 n m c uc L L2 es fs := ⟨hR, hLt, hR2, hL2t, hn, hm, (fun e => hne g rfl (by rw [e]; rfl)), hbg, hcm, hnc, hmu, hm0, hl, hbase⟩
    have hfin : ∀ r w', (∃ v', r = Ending.returned v' ∧ OwnE w' base v' (es.take i ++ fs ++ es.drop i) ∧ Kept (fun k => k ≠ g) w w' ∧ NewOr w (some g) v') → ∃ v', r = Ending.returned v' ∧ OwnE w' base v' (es.take i ++ fs ++ es.drop i) ∧ Kept (fun k => (Value.slice (some ⟨g, 0, none⟩) n c).ownBlock ≠ some k) w w' ∧ NewOr w (Value.slice (some ⟨g, 0, none⟩) n c).ownBlock v' := fun r w' ⟨v', h1, h2, h3, h4⟩ => ⟨v', h1, h2, h3.mono fun k _ q e => q (by rw [e]; rfl), h4⟩
    rcases Nat.lt_or_ge c (n + m) with q | q
    · exact (ins_grow i T (by omega) q).mono hfin
    · exact (ins_room i T (by omega) q).mono hfin
theorem replace_any (base base2 : Nat) (A A2 : Option Addr) (n i j c m uc : Nat) (es fs : List Ec) (w : World) (ho : OwnE w base (.slice A n c) es) (hn : n = es.length) (hij : i ≤ j) (hj : j ≤ n) (hu : OwnE w base2 (.slice A2 m uc) fs) (hm : m = fs.length)
    (hne : ∀ b, (Value.slice A n c).ownBlock = some b → (Value.slice A2 m uc).ownBlock ≠ some b) (hbase : base ≤ w.heap.size) (hl : n + m ≤ 1000000000000) (hm0 : 0 < m) :
    Calls Try.prog 37 #[.slice A n c, .int .i64 (i : Int), .int .i64 (j : Int), .slice A2 m uc] w fun r w' => ∃ v', r = .returned v' ∧ OwnE w' base v' (es.take i ++ fs ++ es.drop j) ∧ Kept (fun k => (Value.slice A n c).ownBlock ≠ some k) w w' ∧ NewOr w (Value.slice A n c).ownBlock v' := by
  by_cases hij2 : i = j
  · subst hij2
    have HI := Lib.hid (insert_any base base2 A A2 n i c m uc es fs w ho hn hj hu hm hne hbase hl hm0)
    have hnc : n ≤ c ∧ c ≤ 9223372036854775807 := by
      rcases ho.2 with ⟨e, h0⟩ | ⟨g, cap, cur, e, _, _, h1, h2, _⟩
      · cases e; exact ⟨by omega, by omega⟩
      · cases e; simp only [maxLen] at h2; omega
    have hin : (i : Int) ≤ (n : Int) := by omega
    have hic : (i : Int) ≤ (c : Int) := by omega
    generalize es.take i ++ fs ++ es.drop i = res at *
    obtain ⟨P, hP⟩ : ∃ P : World → Value → World → Prop, P = fun w v' w' => OwnE w' base v' res ∧ Kept (fun k => (Value.slice A n c).ownBlock ≠ some k) w w' ∧ NewOr w (Value.slice A n c).ownBlock v' := ⟨_, rfl⟩
    have HI2 : Hid (Calls Try.prog 57 #[.slice A n c, .int .i64 (i : Int), .slice A2 m uc] w fun r w' => ∃ A' n' c', r = .returned (.slice A' n' c') ∧ P w (.slice A' n' c') w') := by
      subst hP
      exact HI.out.mono fun r w' ⟨v', h1, h2, h3⟩ => by
        obtain ⟨A', c', rfl, _⟩ := h2.rd
        exact ⟨A', _, c', h1, h2, h3⟩
    have Hg : Hid (∀ w', ∀ v', P w v' w' → OwnE w' base v' res ∧ Kept (fun k => (Value.slice A n c).ownBlock ≠ some k) w w' ∧ NewOr w (Value.slice A n c).ownBlock v') := by subst hP; exact fun _ _ h => h
    suffices hs : Calls Try.prog 37 #[.slice A n c, .int .i64 (i : Int), .int .i64 (i : Int), .slice A2 m uc] w fun r w' => ∃ v', r = .returned v' ∧ P w v' w' from hs.mono fun r w' ⟨v', h1, h2⟩ => ⟨v', h1, Hg.out _ _ h2⟩
    clear ho hu hn hm hne hbase hl hm0 hP Hg HI
    rcases Decidable.em (c = i) with hci | hci
    · subst hci
      go_enter Try.func37, Try.ntmps37
      go_wp2_with fail
      refine HI2.out.mono ?_
      rintro r w2 ⟨A3, n3, c3, rfl, h2⟩
      have H2 := Lib.hid h2
      clear h2 HI2
      go_wp2_with fail
      go_ret
      exact ⟨_, rfl, H2.out⟩
    all_goals
      go_enter Try.func37, Try.ntmps37
      go_wp2_with fail
      refine HI2.out.mono ?_
      rintro r w2 ⟨A3, n3, c3, rfl, h2⟩
      have H2 := Lib.hid h2
      clear h2 HI2
      go_wp2_with fail
      go_ret
      exact ⟨_, rfl, H2.out⟩
  · obtain ⟨g, rfl⟩ : ∃ g, A = some ⟨g, 0, none⟩ := by
      rcases ho.2 with ⟨e, h0⟩ | ⟨g, cap, cur, e, _⟩
      · omega
      · cases e; exact ⟨g, rfl⟩
    obtain ⟨g2, rfl⟩ : ∃ g2, A2 = some ⟨g2, 0, none⟩ := by
      rcases hu.2 with ⟨e, h0⟩ | ⟨g, cap, cur, e, _⟩
      · omega
      · cases e; exact ⟨g, rfl⟩
    obtain ⟨L, hR, hLt, hbg, hnc, hcm, _⟩ := ho.row
    obtain ⟨L2, hR2, hL2t, hbg2, hmu, _, _⟩ := hu.row
    have T : TwoR w base g g2 n m c uc L L2 es fs := ⟨hR, hLt, hR2, hL2t, hn, hm, (fun e => hne g rfl (by rw [e]; rfl)), hbg, hcm, hnc, hmu, hm0, hl, hbase⟩
    have hfin : ∀ r w', (∃ v', r = Ending.returned v' ∧ OwnE w' base v' (es.take i ++ fs ++ es.drop j) ∧ Kept (fun k => k ≠ g) w w' ∧ NewOr w (some g) v') → ∃ v', r = Ending.returned v' ∧ OwnE w' base v' (es.take i ++ fs ++ es.drop j) ∧ Kept (fun k => (Value.slice (some ⟨g, 0, none⟩) n c).ownBlock ≠ some k) w w' ∧ NewOr w (Value.slice (some ⟨g, 0, none⟩) n c).ownBlock v' := fun r w' ⟨v', h1, h2, h3, h4⟩ => ⟨v', h1, h2, h3.mono fun k _ q e => q (by rw [e]; rfl), h4⟩
    by_cases hjn : j = n
    · subst hjn
      rcases Nat.lt_or_ge (i + m) j with q | q
      · exact (rep_end1 i T (by omega) q).mono hfin
      · exact (rep_end2 i T (by omega) q).mono hfin
    · rcases Nat.lt_or_ge c (i + m + (n - j)) with q | q
      · exact (rep_grow i j T (by omega) (by omega) q).mono hfin
      · rcases Nat.lt_or_ge j (i + m) with p | p
        · exact (rep_long i j T (by omega) (by omega) q p).mono hfin
        · exact (rep_short i j T (by omega) (by omega) q p).mono hfin
end
end Go.Proofs.Ytghcfmkmndldoaa

/-
  Add.
-/
namespace Go.Proofs.Ytghcfmkmndldoaa
open Go.RowKit Go.Sort Go.Lib

theorem mono_A {l : List Ec} (h : PlainE l) (k : Ec) : MonoE l (fun x => Op.bytesLess x.2.1.toList k.1.toList) := fun i j x y hij hx hy hq => by
  rcases Nat.lt_or_ge i j with q | q
  · have h1 := plain_rise h hx hy q
    have h2 := h.ok y (List.mem_of_getElem? hy)
    exact ke_kl h1 (kl_trans h2 hq)
  · obtain rfl : i = j := by omega
    rw [hx] at hy
    cases hy
    exact hq
theorem mono_B {l : List Ec} (h : PlainE l) (k : Ec) : MonoE l (fun x => leB x.1 k.2.1) := fun i j x y hij hx hy hq => by
  rcases Nat.lt_or_ge i j with q | q
  · have h1 := plain_rise h hx hy q
    have h2 := h.ok x (List.mem_of_getElem? hx)
    exact leB_iff.2 (ke_trans h2.ke (ke_trans h1 (leB_iff.1 hq)))
  · obtain rfl : i = j := by omega
    rw [hx] at hy
    cases hy
    exact hq
theorem add_cuts {l : List Ec} {e : Ec} {a b : Nat} (hp : PlainE l) (he : kl e.1 e.2.1) (ha : CntP l (fun x => Op.bytesLess x.2.1.toList e.1.toList) a) (hb : CntP l (fun x => leB x.1 e.2.1) b) :
    a ≤ b ∧ (∀ i x, l[i]? = some x → i < a → kl x.2.1 e.1) ∧ (∀ i x, l[i]? = some x → b ≤ i → kl e.2.1 x.1) := by
  refine ⟨Decidable.byContradiction fun q => ?_, fun i x hx hi => (ha.2 i x hx).2 hi, fun i x hx hi => ?_⟩
  · have hlt : b < l.length := by have := ha.1; omega
    obtain ⟨x, hx⟩ : ∃ x, l[b]? = some x := ⟨_, List.getElem?_eq_getElem hlt⟩
    have h1 : kl x.2.1 e.1 := (ha.2 b x hx).2 (by omega)
    have h2 := (hb.2 b x hx).1 (leB_iff.2 (kl.ke (kl_trans (hp.ok x (List.mem_of_getElem? hx)) (kl_trans h1 he))))
    omega
  · rcases ke_or x.1 e.2.1 with q | q
    · have := (hb.2 i x hx).1 (leB_iff.2 q)
      omega
    · exact q
theorem plain_one {e : Ec} (he : kl e.1 e.2.1) : PlainE [e] := ⟨fun x hx => by rw [List.mem_singleton.1 hx]; exact he, List.pairwise_singleton _ _⟩
theorem top_one {e : Ec} (he : kl e.1 e.2.1) (j : ByteArray) : topE [e] j = if covE e j = true then e.2.2 + 1 else 0 := by
  by_cases h : covE e j = true
  · rw [if_pos h, top_in (plain_one he) h]
  · rw [if_neg h, top_out h]
    rfl
end Go.Proofs.Ytghcfmkmndldoaa

/-
  Add: the walk.
-/
namespace Go.Proofs.Ytghcfmkmndldoaa
open Go.RowKit Go.Sort Go.Lib

theorem OwnE.notPSet {w : World} {base g : Nat} {v u : Value} {es : List Ec} (h : OwnE w base v es) (hc : Cells w g 65 [u]) : v.ownBlock ≠ some g := fun e => by
  rcases h.2 with ⟨e1, _⟩ | ⟨b, cap, cur, e1, _, hh, _⟩
  · rw [e1] at e; cases e
  · rw [e1] at e
    cases e
    unfold Cells at hc
    rw [hh] at hc
    cases hc
/-- a set in memory, its slice v -/
structure SetV (w : World) (base g : Nat) (v : Value) (out : List Ec) : Prop where
  cell : Cells w g 65 [v]
  own : OwnE w base v out
  plain : PlainE out
  ge : base ≤ g
  len : out.length ≤ 20000000000
theorem SetV.at_ {w : World} {base g : Nat} {v : Value} {out : List Ec} (h : SetV w base g v out) : SetAt w base g out := ⟨⟨v, h.cell, h.own⟩, h.plain, h.ge, h.len⟩
theorem SetAt.v {w : World} {base g : Nat} {out : List Ec} (h : SetAt w base g out) : ∃ v, SetV w base g v out := by
  obtain ⟨v, h1, h2⟩ := h.cell
  exact ⟨v, h1, h2, h.plain, h.ge, h.len⟩
theorem SetV.below {w w' : World} {base g : Nat} {v : Value} {out : List Ec} (h : SetV w base g v out) (hb : Below w.heap.size w w') : SetV w' base g v out := ⟨h.cell.move (hb.block _ h.cell.lt), h.own.below hb, h.plain, h.ge, h.len⟩
/-- what Add leaves -/
def AddP (w w' : World) (base g : Nat) (v : Value) (l : List Ec) (e : Ec) : Prop := Below base w w' ∧ Kept (fun k => k ≠ g ∧ v.ownBlock ≠ some k) w w' ∧ ∃ v' out, SetV w' base g v' out ∧ NewOr w v.ownBlock v' ∧ (∀ j, topE out j = max (topE l j) (if covE e j = true then e.2.2 + 1 else 0)) ∧ out.length ≤ 3 * l.length + 2
/-- what lies between -/
structure MidP (w4 w' : World) (A6 : Option Addr) (m c6 : Nat) (seg out : List Ec) (e : Ec) : Prop where
  own : OwnE w' w4.heap.size (.slice A6 m c6) out
  hm : m = out.length
  mid : MidE seg out e
  len : out.length ≤ 2 * (seg.length + 1)
  bel : Below w4.heap.size w4 w'
theorem both_mid {w4 X : World} {As : Option Addr} {cs k b2 : Nat} {seg : List Ec} {e : Ec} (hk : k = seg.length) (hX : Below w4.heap.size w4 X) (hr : RE X X.heap.size As seg) (hc : seg.length ≤ cs) (he : RE X X.heap.size (some ⟨b2, 0, none⟩) [e]) (hp : PlainE seg) (hok : kl e.1 e.2.1) (hl : seg.length ≤ 1000000000) :
    Calls Try.prog 38 #[.slice As k cs, .slice (some ⟨b2, 0, none⟩) 1 1] X fun r w' => ∃ A6 m c6 out, r = .returned (.slice A6 m c6) ∧ MidP w4 w' A6 m c6 seg out e := by
  subst hk
  refine (both_any As (some ⟨b2, 0, none⟩) cs 1 seg [e] X hr he hc (Nat.le_refl _) hp (plain_one hok) (by simp; omega)).mono ?_
  rintro r w' ⟨v, out, rfl, hm⟩
  obtain ⟨A6, c6, rfl, _⟩ := hm.own.rd
  exact ⟨A6, _, c6, out, rfl, hm.own.wideB hX.size, rfl, ⟨hp, hm.plain, hok, fun j => by rw [hm.top, top_one hok]⟩, by have := hm.len; simpa using this, hX.trans (hm.bel.mono hX.size)⟩
theorem rep_add {w w4 X : World} {base g n a b c m c6 : Nat} {A A6 : Option Addr} {l out : List Ec} {e : Ec} (hw : Below w.heap.size w w4) (hb : base ≤ w.heap.size) (hS : SetAt w4 base g l) (hg : Cells w4 g 65 [.slice A n c]) (ho : OwnE w4 base (.slice A n c) l) (hn : n = l.length) (hl : l.length ≤ 1000000000)
    (hab : a ≤ b) (hbn : b ≤ n) (ha : ∀ i x, l[i]? = some x → i < a → kl x.2.1 e.1) (hbb : ∀ i x, l[i]? = some x → b ≤ i → kl e.2.1 x.1) (hM : MidP w4 X A6 m c6 ((l.take b).drop a) out e) :
    Calls Try.prog 37 #[.slice A n c, .int .i64 (a : Int), .int .i64 (b : Int), .slice A6 m c6] X fun r w' => ∃ A7 n7 c7, r = .returned (.slice A7 n7 c7) ∧ Cells w' g 65 [.slice A n c] ∧ AddP w (w'.setCell ⟨g, 0, none⟩ (.slice A7 n7 c7)) base g (.slice A n c) l e := by
  have hsl : ((l.take b).drop a).length ≤ n := by rw [List.length_drop, List.length_take]; omega
  have h0 : 0 < m := by
    rw [hM.hm]
    rcases Nat.eq_zero_or_pos out.length with q | q
    · have h1 := hM.mid.top e.1
      rw [List.eq_nil_of_length_eq_zero q, if_pos (covE_lo hM.mid.ok)] at h1
      have h2 : topE [] e.1 = 0 := rfl
      omega
    · exact q
  have hlen := hM.len
  have hwX := hw.size
  have hXs := hM.bel.size
  refine (replace_any base w4.heap.size A A6 n a b c m c6 l out X (ho.below hM.bel) hn hab hbn hM.own hM.hm (fun k hk q => by
    have h1 := (ho.ge k hk).2
    have h2 := (hM.own.ge k q).1
    omega) (by omega) (by have := hM.hm; omega) h0).mono ?_
  rintro r w' ⟨v', rfl, ho', hk, hnew⟩
  obtain ⟨A7, c7, rfl, _⟩ := ho'.rd
  have hgX := hg.move (hM.bel.block _ hg.lt)
  have hg' : Cells w' g 65 [.slice A n c] := hgX.move (hk.block _ hgX.lt ((ho.below hM.bel).notPSet hgX))
  have hp := add_plain hS.plain hab ha hbb hM.mid
  have hge := hS.ge
  have hB : Below base w w' := ((hw.mono hb).trans (hM.bel.mono (by omega))).trans (hk.to_below (fun k hkb q => by have := ((ho.below hM.bel).ge k q).1; omega) (by omega))
  have hK : Kept (fun k => k ≠ g ∧ (Value.slice A n c).ownBlock ≠ some k) w w' := by
    have k1 : Kept (fun k => k ≠ g ∧ (Value.slice A n c).ownBlock ≠ some k) w X := ((Kept.refl _ _).below hw).below hM.bel
    exact k1.trans (hk.mono fun k _ q => q.2)
  refine ⟨A7, _, c7, rfl, hg', hB.setCell (p := ⟨g, 0, none⟩) hge _, hK.setCell (p := ⟨g, 0, none⟩) (fun q => q.1 rfl) _, _, _, ⟨hg'.set 0 _, ho'.move fun k hk9 => Below.heap_setCell _ _ _ _ (fun q => ho'.notPSet hg' (by rw [hk9]; exact congrArg some q)), hp.1, hge, ?_⟩, hnew.imp id fun q b9 hb9 => Nat.le_trans (by omega) (q b9 hb9), hp.2, ?_⟩
  · simp only [List.length_append, List.length_take, List.length_drop]; omega
  · simp only [List.length_append, List.length_take, List.length_drop]; omega
section
set_option maxRecDepth 100000
set_option maxHeartbeats 8000000
theorem add_any (e : Ec) (base g : Nat) (vs : Value) (l : List Ec) (w : World) (hv : SetV w base g vs l) (hb : base ≤ w.heap.size) (hl : l.length ≤ 1000000000) :
    Calls Try.prog 11 #[.pointer (some ⟨g, 0, none⟩), eV e] w fun r w' => r = .returned (.int .i64 (chkE e)) ∧ ((chkE e = 0 ∧ AddP w w' base g vs l e) ∨ (chkE e = 1 ∧ Below w.heap.size w w')) := by
  have h := hv.at_
  have Hv := Lib.hid hv
  clear hv
  obtain ⟨W1, hW1⟩ : ∃ W1, W1 = w.alloc (.cells #[.string e.1, .string e.2.1, .int .u64 (e.2.2 : Int)] 32) := ⟨_, rfl⟩
  have hb1 : Below w.heap.size w W1 := by rw [hW1]; exact (Below.refl _ _).alloc (Nat.le_refl _) _
  have hC1 : Cells W1 w.heap.size 32 (cellE e) := by rw [hW1]; exact Cells.new w _ _
  have HCk := Lib.hid (check_any e W1)
  have H0 : Hid (SetAt w base g l ∧ base ≤ w.heap.size ∧ l.length ≤ 1000000000 ∧ Below w.heap.size w W1 ∧ Cells W1 w.heap.size 32 (cellE e)) := ⟨h, hb, hl, hb1, hC1⟩
  have Hz := Lib.hid (chk_zero (e := e))
  have e0 := hC1.cell (i := 0) rfl
  have e1 := hC1.cell (i := 1) rfl
  have e2 := hC1.cell (i := 2) rfl
  have hce : chkE e = 0 ∨ chkE e = 1 := by unfold chkE; split <;> simp
  unfold eV at HCk ⊢
  clear h hb hl hb1 hC1
  rw [hW1] at e0 e1 e2
  go_enter Try.func11, Try.ntmps11
  go_wp2_with fail
  rw [← hW1]
  clear hW1 e0 e1 e2
  refine HCk.out.mono ?_
  rintro r w2 ⟨rfl, hb2⟩
  have hbw2 : Below w.heap.size w w2 := H0.out.2.2.2.1.trans (hb2.mono H0.out.2.2.2.1.size)
  have H2 : Hid (Below w.heap.size w w2 ∧ SetAt w2 base g l ∧ Cells w2 w.heap.size 32 (cellE e)) := ⟨hbw2, H0.out.1.below hbw2, H0.out.2.2.2.2.move (hb2.block _ H0.out.2.2.2.2.lt)⟩
  clear hb2 hbw2 HCk
  rcases hce with hce | hce
  · have Hce := Lib.hid hce
    have Hok := Lib.hid (Hz.out.1 hce)
    have HA := Lib.hid (addA_cnt e w.heap.size g base l w2 H2.out.2.1 (mono_A H2.out.2.1.plain e) H2.out.2.2)
    rw [hce]
    clear hce Hz
    go_wp2_with fail
    refine HA.out.mono ?_
    rintro r w3 ⟨a, rfl, ha, hb3⟩
    have H3 : Hid (Below w.heap.size w w3 ∧ SetAt w3 base g l ∧ Cells w3 w.heap.size 32 (cellE e) ∧ CntP l (fun x => Op.bytesLess x.2.1.toList e.1.toList) a) := ⟨H2.out.1.trans (hb3.mono H2.out.1.size), H2.out.2.1.below hb3, H2.out.2.2.move (hb3.block _ H2.out.2.2.lt), ha⟩
    clear ha hb3 HA H2
    have HB := Lib.hid (addB_cnt e w.heap.size g base l w3 H3.out.2.1 (mono_B H3.out.2.1.plain e) H3.out.2.2.1)
    go_wp2_with fail
    refine HB.out.mono ?_
    rintro r w4 ⟨b, rfl, hb, hb4⟩
    have hcut := add_cuts H3.out.2.1.plain Hok.out H3.out.2.2.2 hb
    have hbw4 : Below w.heap.size w w4 := H3.out.1.trans (hb4.mono H3.out.1.size)
    have hS4 := H3.out.2.1.below hb4
    have hC4 := H3.out.2.2.1.move (hb4.block _ H3.out.2.2.1.lt)
    have hbl := hb.1
    clear hb hb4 HB H3
    have hV4 := Hv.out.below hbw4
    have hg := hV4.cell
    have ho := hV4.own
    clear Hv hV4
    obtain ⟨A, c, ev, hlc, hA0, hr, _, hfl⟩ := ho.rd
    obtain ⟨n, hn⟩ : ∃ n, n = l.length := ⟨_, rfl⟩
    rw [← hn] at ev hlc hbl
    subst ev
    obtain ⟨Y, hY⟩ : ∃ Y, Y = w4.alloc (.cells #[.string e.1, .string e.2.1, .int .u64 (e.2.2 : Int)] 32) := ⟨_, rfl⟩
    have hYb : Below w4.heap.size w4 Y := by rw [hY]; exact (Below.refl _ _).alloc (Nat.le_refl _) _
    have hYr : RE Y Y.heap.size (some ⟨w4.heap.size, 0, none⟩) [e] := by rw [hY]; exact (RE.one w4 e).wide (by simp)
    have hl9 := H0.out.2.2.1
    have hsl : ((l.take b).drop a).length = b - a := by rw [List.length_drop, List.length_take]; omega
    have HBo : Hid (∀ As cs X, (X = Y ∨ X = Y.drew) → RE w4 w4.heap.size As ((l.take b).drop a) → b - a ≤ cs → Calls Try.prog 38 #[.slice As ((b - a : Nat) : Nat) cs, .slice (some ⟨w4.heap.size, 0, none⟩) 1 1] X fun r w' => ∃ A6 m c6 out, r = .returned (.slice A6 m c6) ∧ MidP w4 w' A6 m c6 ((l.take b).drop a) out e) := fun As cs X hX hRE hcs => by
      have hXb : Below w4.heap.size w4 X := by rcases hX with rfl | rfl; exact hYb; exact hYb.drew
      have hXr : RE X X.heap.size (some ⟨w4.heap.size, 0, none⟩) [e] := by rcases hX with rfl | rfl; exact hYr; exact hYr
      exact both_mid hsl.symm hXb (hRE.now hXb) (by omega) hXr (hS4.plain.sub ((List.drop_sublist _ _).trans (List.take_sublist _ _))) Hok.out (by omega)
    have HRp : Hid (∀ A6 m c6 out w6 X, (X = w6 ∨ X = w6.drew) → MidP w4 w6 A6 m c6 ((l.take b).drop a) out e → Calls Try.prog 37 #[.slice A n c, .int .i64 (a : Int), .int .i64 (b : Int), .slice A6 m c6] X fun r w' => ∃ A7 n7 c7, r = .returned (.slice A7 n7 c7) ∧ Cells w' g 65 [.slice A n c] ∧ AddP w (w'.setCell ⟨g, 0, none⟩ (.slice A7 n7 c7)) base g (.slice A n c) l e) := fun A6 m c6 out w6 X hX hM => by
      have hMX : MidP w4 X A6 m c6 ((l.take b).drop a) out e := by
        rcases hX with rfl | rfl
        · exact hM
        · exact ⟨hM.own, hM.hm, hM.mid, hM.len, hM.bel.drew⟩
      exact rep_add hbw4 H0.out.2.1 hS4 hg ho hn H0.out.2.2.1 hcut.1 hbl hcut.2.1 hcut.2.2 hMX
    have Hg6 : Hid (∀ w6, Below w4.heap.size w4 w6 → w6.cell? ⟨g, 0, none⟩ = some (.slice A n c)) := fun w6 h6 => (hg.move (h6.block _ hg.lt)).cell (i := 0) rfl
    have e0 := hC4.cell (i := 0) rfl
    have e1 := hC4.cell (i := 1) rfl
    have e2 := hC4.cell (i := 2) rfl
    have g0 := hg.cell (i := 0) rfl
    have d0 : w4.drew.cell? ⟨w.heap.size, 0, none⟩ = some (.string e.1) := e0
    have d1 : w4.drew.cell? ⟨w.heap.size, 1, none⟩ = some (.string e.2.1) := e1
    have d2 : w4.drew.cell? ⟨w.heap.size, 2, none⟩ = some (.int .u64 (e.2.2 : Int)) := e2
    have d3 : w4.drew.cell? ⟨g, 0, none⟩ = some (.slice A n c) := g0
    have d4 : Y.cell? ⟨g, 0, none⟩ = some (.slice A n c) := Hg6.out _ hYb
    have hcmx : c ≤ maxLen ∨ c = 0 := by
      rcases ho.2 with ⟨e9, _⟩ | ⟨g9, cap, cur, e9, _, _, h1, h2, _⟩
      · cases e9; right; rfl
      · cases e9; left; exact h2
    have hc9 : c ≤ 9223372036854775807 := by rcases hcmx with q | q <;> (try simp only [maxLen] at q) <;> omega
    have hab := hcut.1
    have hab' : (a : Int) ≤ (b : Int) := by omega
    have hbn' : (b : Int) ≤ (n : Int) := by omega
    have hbc' : (b : Int) ≤ (c : Int) := by omega
    have hac' : (a : Int) ≤ (c : Int) := by omega
    rw [hY] at HBo d4
    rcases Decidable.em (c = a) with hca | hca
    · obtain rfl : b = a := by omega
      have HB1 := Lib.hid (fun X hX => HBo.out A 0 X hX (by rw [List.drop_eq_nil_of_le (by rw [List.length_take]; omega)]; exact RE.nil _ _ _) (by omega))
      rw [Nat.sub_self] at HB1
      subst hca
      clear hcmx hab hcut hS4 hC4 hbl hg ho hlc hA0 hr hfl hY hYb hYr hl9 hsl HBo hn hbw4
      generalize (l.take c).drop c = seg at HB1 HRp
      go_upto_region 6 with fail
      go_region_law (first
        | (go_simp; go_at_call 38; refine (HB1.out _ (by first | exact .inl (by with_reducible rfl) | exact .inr (by with_reducible rfl))).mono ?_; rintro e9 w6 ⟨A6, m6, c6, out, rfl, hm6⟩; have H6 := Lib.hid hm6; have x6 := Hg6.out w6 H6.out.bel; have y6 : w6.drew.cell? ⟨g, 0, none⟩ = some (.slice A n c) := x6; clear hm6)
        | (go_simp; go_at_call 37; refine (HRp.out A6 m6 c6 out w6 _ (by first | exact .inl (by with_reducible rfl) | exact .inr (by with_reducible rfl)) H6.out).mono ?_; rintro e9 w7 ⟨A7, n7, c7, rfl, hc7, h7⟩; have H7 := Lib.hid h7; have x7 := hc7.cell (i := 0) rfl; have z7 := hc7.frozen 0; clear hc7 h7))
      all_goals
        go_wp2_with fail
        go_ret
        exact ⟨by rw [Hce.out]; rfl, .inl ⟨Hce.out, H7.out⟩⟩
    · obtain ⟨gb, rfl⟩ : ∃ gb, A = some ⟨gb, 0, none⟩ := by
        rcases ho.2 with ⟨e9, _⟩ | ⟨g9, cap, cur, e9, _⟩
        · cases e9; omega
        · cases e9; exact ⟨g9, rfl⟩
      have HB1 := Lib.hid (fun X hX => HBo.out (some ⟨gb, a * 3, none⟩) (c - a) X hX (by have := (hr.take b).cut a; rwa [Nat.zero_add] at this) (by omega))
      clear hcmx hab hcut hS4 hC4 hbl hg ho hlc hA0 hr hfl hY hYb hYr hl9 hsl HBo hn hbw4
      generalize (l.take b).drop a = seg at HB1 HRp
      go_upto_region 6 with fail
      go_region_law (first
        | (go_simp; go_at_call 38; refine (HB1.out _ (by first | exact .inl (by with_reducible rfl) | exact .inr (by with_reducible rfl))).mono ?_; rintro e9 w6 ⟨A6, m6, c6, out, rfl, hm6⟩; have H6 := Lib.hid hm6; have x6 := Hg6.out w6 H6.out.bel; have y6 : w6.drew.cell? ⟨g, 0, none⟩ = some (.slice (some ⟨gb, 0, none⟩) n c) := x6; clear hm6)
        | (go_simp; go_at_call 37; refine (HRp.out A6 m6 c6 out w6 _ (by first | exact .inl (by with_reducible rfl) | exact .inr (by with_reducible rfl)) H6.out).mono ?_; rintro e9 w7 ⟨A7, n7, c7, rfl, hc7, h7⟩; have H7 := Lib.hid h7; have x7 := hc7.cell (i := 0) rfl; have z7 := hc7.frozen 0; clear hc7 h7))
      all_goals
        go_wp2_with fail
        go_ret
        exact ⟨by rw [Hce.out]; rfl, .inl ⟨Hce.out, H7.out⟩⟩
  · have Hce := Lib.hid hce
    have Hn : Hid (chkE e = 1) := hce
    rw [hce]
    clear hce Hz
    go_wp2_with fail
    go_ret
    exact ⟨by rw [Hce.out]; rfl, .inr ⟨Hn.out, H2.out.1⟩⟩
end
end Go.Proofs.Ytghcfmkmndldoaa

/-
  The second saying's Forget.
-/
namespace Go.Proofs.Ytghcfmkmndldoaa
open Go.RowKit Go.Sort Go.Lib

def newB (up : Nat) (e : Ec) : Bool := decide (up < e.2.2)
/-- WHERE Forget STANDS -/
def FgSt (w1 : World) (g up : Nat) (ls : List Ec) (W : World) (v : Value) (i : Nat) : Prop := Cells W g 29 [v] ∧ OwnE W w1.heap.size v ((ls.take i).filter (newB up)) ∧ Kept (fun k => k ≠ g) w1 W
theorem RE.kept1 {w w' : World} {g : Nat} {A : Option Addr} {es : List Ec} (h : RE w w.heap.size A es) (hk : Kept (fun k => k ≠ g) w w') (hne : ∀ b o, A = some ⟨b, o, none⟩ → b ≠ g) : RE w' w'.heap.size A es := fun k p hp => by
  obtain ⟨b, o, e, hlt, h0, h1, h2⟩ := h k p hp
  have hc : ∀ i, w'.cell? ⟨b, i, none⟩ = w.cell? ⟨b, i, none⟩ := fun i => by
    unfold World.cell?
    rw [hk.block b hlt (hne b o e)]
  exact ⟨b, o, e, Nat.lt_of_lt_of_le hlt hk.size, (hc _).trans h0, (hc _).trans h1, (hc _).trans h2⟩
theorem FgSt.app {w1 Y X w6 : World} {g up i : Nat} {ls : List Ec} {v v6 : Value} {e : Ec} (h : FgSt w1 g up ls Y v i) (hX : X = Y ∨ X = Y.drew) (he : ls[i]? = some e) (hn : newB up e = true) (ho : OwnE w6 w1.heap.size v6 ((ls.take i).filter (newB up) ++ [e])) (hg : X.grownBy w6 v.ownBlock) :
    Cells w6 g 29 [v] ∧ FgSt w1 g up ls (w6.setCell ⟨g, 0, none⟩ v6) v6 (i + 1) := by
  have hcX : Cells X g 29 [v] := by rcases hX with rfl | rfl; exact h.1; exact h.1
  have hkX : Kept (fun k => k ≠ g) w1 X := by rcases hX with rfl | rfl; exact h.2.2; exact h.2.2.drew
  have hoX : OwnE X w1.heap.size v ((ls.take i).filter (newB up)) := by rcases hX with rfl | rfl; exact h.2.1; exact h.2.1
  have hc6 : Cells w6 g 29 [v] := hcX.move (hg.block _ hcX.lt (fun q => hoX.notSet hcX q.symm))
  refine ⟨hc6, hc6.set 0 v6, ?_, ?_⟩
  · rw [filt_take he, if_pos hn]
    exact ho.move fun b hb => Below.heap_setCell _ _ _ _ (fun q => ho.notSet hc6 (by rw [hb]; exact congrArg some q))
  · have k2 : Kept (fun k => k ≠ g) w1 w6 := ⟨hg.os.trans hkX.os, hg.tape.trans hkX.tape, hg.output.trans hkX.output, Nat.le_trans hkX.size hg.size, fun k hk hq => (hg.block k (Nat.lt_of_lt_of_le hk hkX.size) (fun q => by have := (hoX.ge k q.symm).1; omega)).trans (hkX.block k hk hq)⟩
    exact k2.setCell (p := ⟨g, 0, none⟩) (fun q => q rfl) _
section
set_option maxRecDepth 100000
set_option maxHeartbeats 8000000
theorem rforget_any (base g : Nat) (v : Value) (l : List Ec) (up : Nat) (w : World) (h : RefSet w base g v l) (hb : base ≤ w.heap.size) (hbg : base ≤ g) (hl : l.length ≤ 400000) :
    Calls Try.prog 15 #[.pointer (some ⟨g, 0, none⟩), .int .u64 (up : Int)] w fun r w' => ∃ v' ls, r = .returned (.int .i64 ((ls.length - (ls.filter (newB up)).length : Nat) : Int)) ∧ ListP l ls ∧ RefSet w' base g v' (ls.filter (newB up)) ∧ Below base w w' ∧ Kept (fun k => k ≠ g) w w' ∧ NewOr w none v' := by
  have HL := Lib.hid (rlist_any base g v l w h)
  have H0 : Hid (RefSet w base g v l ∧ base ≤ w.heap.size ∧ base ≤ g ∧ l.length ≤ 400000) := ⟨h, hb, hbg, hl⟩
  clear h hb hbg hl
  go_enter Try.func15, Try.ntmps15
  go_wp2_with fail
  refine HL.out.mono ?_
  rintro r w1 ⟨v1, ls, rfl, ho, hp, hb1⟩
  obtain ⟨A, c, rfl, hc, -, hr, -⟩ := ho.rd
  have hc1 := (H0.out.1.below hb1).cell
  have hgw : ∀ b o, A = some ⟨b, o, none⟩ → b ≠ g := fun b o e q => by
    subst e
    subst q
    have h1 : (Value.slice (some ⟨b, o, none⟩) ls.length c).ownBlock = some b := rfl
    have := (ho.ge b h1).1
    have := H0.out.1.cell.lt
    omega
  have Hne := Lib.hid hgw
  have H1 : Hid (RE w1 w1.heap.size A ls ∧ ListP l ls ∧ Below w.heap.size w w1 ∧ g < w1.heap.size) := ⟨hr, hp, hb1, hc1.lt⟩
  have Hlen : Hid (∀ k : Nat, k < ls.length → ∃ u, ls[k]? = some u) := fun k hk => ⟨_, List.getElem?_eq_getElem hk⟩
  have hn9 : ls.length ≤ 800000 := by have := hp.len; have := H0.out.2.2.2; omega
  obtain ⟨W2, hW2⟩ : ∃ W2, W2 = w1.setCell ⟨g, 0, none⟩ (.slice none 0 0) := ⟨_, rfl⟩
  have Hst0 : Hid (FgSt w1 g up ls W2 (.slice none 0 0) 0) := ⟨by rw [hW2]; exact hc1.set 0 _, OwnE.nil _ _, by rw [hW2]; exact (Kept.refl _ _).setCell (p := ⟨g, 0, none⟩) (fun q => q rfl) _⟩
  have g0 := hc1.cell (i := 0) rfl
  have z0 := hc1.frozen 0
  obtain ⟨n, hn⟩ : ∃ n, n = ls.length := ⟨_, rfl⟩
  obtain ⟨cv, hcv⟩ : ∃ cv : Int, cv = ((ls.length - (ls.filter (newB up)).length : Nat) : Int) := ⟨_, rfl⟩
  rw [← hn] at Hlen hn9 ⊢
  have Hn := Lib.hid hn
  have Hcv := Lib.hid hcv
  have hl' : (n : Int) ≤ 800000 := by omega
  clear ho hp hb1 hr hc HL hn hgw hc1 hcv
  go_wp2_with fail
  rw [← hW2]
  clear hW2 g0 z0
  go_loopw [6, 7] (fun cc iv wr => ∃ (i k : Nat) (v' : Value), iv = .int .i64 (i : Int) ∧ cc = .int .i64 (k : Int) ∧ i ≤ n ∧ k ≤ i ∧ Hid (k + ((ls.take i).filter (newB up)).length = i ∧ FgSt w1 g up ls wr v' i)) (fun _ iv _ => n - (intOf iv).toNat)
  case atStart => exact ⟨0, 0, _, rfl, rfl, Nat.zero_le _, Nat.le_refl _, rfl, Hst0.out⟩
  case round =>
    obtain ⟨i, k, v', rfl, rfl, hi9, hk9, hst⟩ := hrel
    by_cases hlt : i < n
    · obtain ⟨e, he⟩ := Hlen.out i hlt
      obtain ⟨b, o, rfl, _, x0, x1, x2⟩ := (H1.out.1.kept1 hst.out.2.2.2 Hne.out) i e he
      have hlt' : (i : Int) < (n : Int) := by omega
      have He : Hid (ls[i]? = some e ∧ i < n) := ⟨he, hlt⟩
      by_cases hq : up < e.2.2
      · have hq' : ¬ (e.2.2 : Int) ≤ (up : Int) := by omega
        have hnb : newB up e = true := decide_eq_true hq
        obtain ⟨A3, c3, e3, -⟩ := hst.out.2.2.1.rd
        subst e3
        have g0 := hst.out.2.1.cell (i := 0) rfl
        obtain ⟨Y, hY⟩ : ∃ Y, Y = wr.alloc (.cells #[.string e.1, .string e.2.1, .int .u64 (e.2.2 : Int)] 32) := ⟨_, rfl⟩
        have hYb : Below wr.heap.size wr Y := by rw [hY]; exact (Below.refl _ _).alloc (Nat.le_refl _) _
        have hYs : FgSt w1 g up ls Y (.slice A3 ((ls.take i).filter (newB up)).length c3) i := ⟨hst.out.2.1.move (hYb.block _ hst.out.2.1.lt), hst.out.2.2.1.below hYb, hst.out.2.2.2.below hYb⟩
        have hYr : RE Y (wr.heap.size + 1) (some ⟨wr.heap.size, 0, none⟩) [e] := by rw [hY]; exact RE.one wr e
        have hYz : w1.heap.size ≤ Y.heap.size := Nat.le_trans hst.out.2.2.2.size hYb.size
        have Hst : Hid (∀ X, (X = Y ∨ X = Y.drew) → OwnE X w1.heap.size (.slice A3 ((ls.take i).filter (newB up)).length c3) ((ls.take i).filter (newB up)) ∧ RE X (wr.heap.size + 1) (some ⟨wr.heap.size, 0, none⟩) [e] ∧ w1.heap.size ≤ X.heap.size) := fun X hX => by
          rcases hX with rfl | rfl
          · exact ⟨hYs.2.1, hYr, hYz⟩
          · exact ⟨hYs.2.1, hYr, hYz⟩
        have Haft : Hid (∀ X v6 w6, (X = Y ∨ X = Y.drew) → OwnE w6 w1.heap.size v6 ((ls.take i).filter (newB up) ++ [e]) → X.grownBy w6 (Value.slice A3 ((ls.take i).filter (newB up)).length c3).ownBlock → Cells w6 g 29 [.slice A3 ((ls.take i).filter (newB up)).length c3] ∧ Hid (FgSt w1 g up ls (w6.setCell ⟨g, 0, none⟩ v6) v6 (i + 1))) := fun X v6 w6 hX r6 g6 => by
          have q := hYs.app hX he hnb r6 g6
          exact ⟨q.1, q.2⟩
        have Hc9 : Hid (k + ((ls.take (i + 1)).filter (newB up)).length = i + 1) := by
          show _ = _
          rw [filt_take he, if_pos hnb, List.length_append]
          have := hst.out.1
          simp
          omega
        have Hl6 : Hid (((ls.take i).filter (newB up) ++ [e]).length = ((ls.take i).filter (newB up)).length + 1) := by show _ = _; simp
        have hfl : ((ls.take i).filter (newB up)).length ≤ 800000 := by
          have := List.length_filter_le (newB up) (ls.take i)
          have := List.length_take_le i ls
          omega
        have Hlen9 : Hid (((ls.take i).filter (newB up)).length + [e].length ≤ 1099511627776) := by show _ ≤ _; simp; omega
        have d0 : wr.drew.cell? ⟨b, o + i * 3, none⟩ = some (.string e.1) := x0
        have d1 : wr.drew.cell? ⟨b, o + i * 3 + 1, none⟩ = some (.string e.2.1) := x1
        have d2 : wr.drew.cell? ⟨b, o + i * 3 + 2, none⟩ = some (.int .u64 (e.2.2 : Int)) := x2
        have d3 : wr.drew.cell? ⟨g, 0, none⟩ = some (.slice A3 ((ls.take i).filter (newB up)).length c3) := g0
        have d4 : Y.cell? ⟨g, 0, none⟩ = some (.slice A3 ((ls.take i).filter (newB up)).length c3) := hYs.1.cell (i := 0) rfl
        rw [hY] at Hst Haft d4
        generalize (ls.take i).filter (newB up) = fl at *
        generalize hfn : fl.length = fn at *
        have Hfn := Lib.hid hfn
        clear hfn
        clear hY hYb hYs hYr hYz hst he hlt hq hnb
        go_wp2_with fail
        go_region_law (first | (go_must (refine step_app_elisions (es := fl) (fs := [e]) (by rfl) (.tmp 32) (.tmp 37) (by rfl) (by rfl) (Hst.out _ (by first | exact .inl (by with_reducible rfl) | exact .inr (by with_reducible rfl))).1 1 1 (by rfl) rfl (Hst.out _ (by first | exact .inl (by with_reducible rfl) | exact .inr (by with_reducible rfl))).2.1 (by rw [Hfn.out]; exact Hlen9.out) (Hst.out _ (by first | exact .inl (by with_reducible rfl) | exact .inr (by with_reducible rfl))).2.2 ?_); intro v6 w6 r6 g6 h6; obtain ⟨A6, n6, e6, -⟩ := r6.rd; rw [Hl6.out] at e6; subst e6; obtain ⟨c6, H6⟩ := Haft.out _ _ w6 (by first | exact .inl (by with_reducible rfl) | exact .inr (by with_reducible rfl)) r6 g6; have x6 := c6.cell (i := 0) rfl; have z6 := c6.frozen 0; clear r6 g6 h6 c6))
        all_goals
          go_wp2_with fail
          go_roundw
          case rel => exact ⟨i + 1, k, _, by go_num, rfl, by have := He.out.2; omega, by omega, Hc9.out, H6.out⟩
          case measure => have := He.out.2; simp [intOf]; omega
      · have hq' : (e.2.2 : Int) ≤ (up : Int) := by omega
        have hnb : ¬ newB up e = true := fun q => hq (of_decide_eq_true q)
        have Hn9 : Hid (k + 1 + ((ls.take (i + 1)).filter (newB up)).length = i + 1 ∧ FgSt w1 g up ls wr v' (i + 1)) := by
          have h1 : (ls.take (i + 1)).filter (newB up) = (ls.take i).filter (newB up) := by rw [filt_take he, if_neg hnb, List.append_nil]
          refine ⟨by rw [h1]; have := hst.out.1; omega, hst.out.2.1, ?_, hst.out.2.2.2⟩
          rw [h1]
          exact hst.out.2.2.1
        clear hst he hlt hq hnb
        go_wp2_with fail
        go_roundw
        case rel => exact ⟨i + 1, k + 1, v', by go_num, by go_num, by have := He.out.2; omega, by omega, Hn9.out⟩
        case measure => have := He.out.2; simp [intOf]; omega
    · obtain rfl : i = n := by omega
      have Hf : Hid (cv = (k : Int) ∧ ListP l ls ∧ RefSet wr base g v' (ls.filter (newB up)) ∧ Below base w wr ∧ Kept (fun k => k ≠ g) w wr ∧ NewOr w none v') := by
        have q := hst.out.2
        have q1 := hst.out.1
        have e9 : ls.take i = ls := List.take_of_length_le (by have := Hn.out; omega)
        unfold FgSt at q
        rw [e9] at q q1
        have hbw : base ≤ w1.heap.size := Nat.le_trans H0.out.2.1 H1.out.2.2.1.size
        have hfl := List.length_filter_le (newB up) ls
        refine ⟨?_, H1.out.2.1, ⟨q.1, q.2.1.wideB hbw, ?_⟩, (H1.out.2.2.1.mono H0.out.2.1).trans (q.2.2.to_below (fun b hb => by have := H0.out.2.2.1; omega) hbw), ((Kept.refl _ _).below H1.out.2.2.1).trans q.2.2, .inr fun b hb => Nat.le_trans H1.out.2.2.1.size (q.2.1.ge b hb).1⟩
        · rw [Hcv.out]
          have := Hn.out
          omega
        · have := Hn.out
          omega
      clear hst hlt
      go_wp2_with fail
      go_ret
      exact ⟨v', ls, by rw [← Hcv.out, Hf.out.1]; rfl, Hf.out.2⟩
end
end Go.Proofs.Ytghcfmkmndldoaa

/-
  IndexFunc and DeleteFunc of elisions, with Forget's closure; Forget, Len.
-/
namespace Go.Proofs.Ytghcfmkmndldoaa
open Go.RowKit Go.Sort Go.Lib

section
set_option maxRecDepth 100000
set_option maxHeartbeats 8000000
theorem forP_any (up ub : Nat) (x : Ec) (w : World) (hc : Cells w ub 24 [.int .u64 (up : Int)]) : Calls Try.prog 40 #[eV x, .pointer (some ⟨ub, 0, none⟩)] w fun r w' => r = .returned (.bool (!newB up x)) ∧ Below w.heap.size w w' := by
  have hb : Below w.heap.size w (w.alloc (.cells #[.string x.1, .string x.2.1, .int .u64 (x.2.2 : Int)] 32)) := (Below.refl _ _).alloc (Nat.le_refl _) _
  have Hb := Lib.hid hb
  have hc1 := hc.alloc (.cells #[.string x.1, .string x.2.1, .int .u64 (x.2.2 : Int)] 32)
  have c0 := hc1.cell (i := 0) rfl
  unfold eV
  clear hb hc hc1
  by_cases h : up < x.2.2
  · have h1 : ¬ (x.2.2 : Int) ≤ (up : Int) := by omega
    rw [show newB up x = true from decide_eq_true h]
    go_enter Try.func40, Try.ntmps40
    go_wp2_with fail
    go_ret
    exact ⟨by first | rfl | simp; omega, Hb.out⟩
  · have h1 : (x.2.2 : Int) ≤ (up : Int) := by omega
    rw [show newB up x = false from decide_eq_false h]
    go_enter Try.func40, Try.ntmps40
    go_wp2_with fail
    go_ret
    exact ⟨by first | rfl | simp; omega, Hb.out⟩
/-- the place of the first that goes, or -1 -/
def FstP (es : List Ec) (up : Nat) (z : Int) : Prop := (z = -1 ∧ ∀ (i : Nat) (e : Ec), es[i]? = some e → newB up e = true) ∨ ∃ i : Nat, z = (i : Int) ∧ i < es.length ∧ (∀ (j : Nat) (e : Ec), j < i → es[j]? = some e → newB up e = true) ∧ ∀ e : Ec, es[i]? = some e → newB up e = false
theorem idxE_any (up ub : Nat) (A : Option Addr) (c : Nat) (es : List Ec) (w : World) (hr : RE w w.heap.size A es) (hl : es.length ≤ 1000000000) (hu : Cells w ub 24 [.int .u64 (up : Int)]) :
    Calls Try.prog 64 #[.slice A es.length c, .func (.func 40) #[] #[.pointer (some ⟨ub, 0, none⟩)]] w fun r w' => ∃ z : Int, r = .returned (.int .i64 z) ∧ FstP es up z ∧ Below w.heap.size w w' := by
  have Hr : Hid (RE w w.heap.size A es ∧ Cells w ub 24 [.int .u64 (up : Int)]) := ⟨hr, hu⟩
  have Hlen : Hid (∀ k : Nat, k < es.length → ∃ u, es[k]? = some u) := fun k hk => ⟨_, List.getElem?_eq_getElem hk⟩
  obtain ⟨n, hn⟩ : ∃ n, n = es.length := ⟨_, rfl⟩
  rw [← hn] at Hlen hl ⊢
  have Hn := Lib.hid hn
  have hl' : (n : Int) ≤ 1000000000 := by omega
  clear hr hu hl hn
  go_enter Try.func64, Try.ntmps64
  go_wp2_with fail
  go_loopw [8] (fun iv wr => ∃ i : Nat, iv = .int .i64 (i : Int) ∧ i ≤ n ∧ Hid ((∀ j e, j < i → es[j]? = some e → newB up e = true) ∧ Below w.heap.size w wr)) (fun iv _ => n - (intOf iv).toNat)
  case atStart => exact ⟨0, rfl, Nat.zero_le _, fun j e hj => absurd hj (Nat.not_lt_zero _), Below.refl _ _⟩
  case round =>
    obtain ⟨i, rfl, hi, hst⟩ := hrel
    by_cases hlt : i < n
    · obtain ⟨e, he⟩ := Hlen.out i hlt
      obtain ⟨b, o, rfl, _, x0, x1, x2⟩ := (Hr.out.1.now hst.out.2) i e he
      have hlt' : (i : Int) < (n : Int) := by omega
      have HC := Lib.hid (forP_any up ub e wr (Hr.out.2.move (hst.out.2.block _ Hr.out.2.lt)))
      have He : Hid (es[i]? = some e ∧ i < n) := ⟨he, hlt⟩
      unfold eV at HC
      cases hq : newB up e with
      | true =>
        rw [hq] at HC
        have Hk : Hid (∀ j f, j < i + 1 → es[j]? = some f → newB up f = true) := fun j f hj hf => by
          rcases Nat.lt_or_ge j i with q | q
          · exact hst.out.1 j f q hf
          · obtain rfl : j = i := by omega
            rw [He.out.1] at hf
            cases hf
            exact hq
        clear he hlt hq
        go_wp2_with fail
        refine HC.out.mono ?_
        rintro r w2 ⟨rfl, hb2⟩
        have H2 : Hid (Below w.heap.size w w2) := hst.out.2.trans (hb2.mono hst.out.2.size)
        clear hb2 HC
        go_wp2_with fail
        go_roundw
        case rel => exact ⟨i + 1, by go_num, by have := He.out.2; omega, Hk.out, H2.out⟩
        case measure => have := He.out.2; simp [intOf]; omega
      | false =>
        rw [hq] at HC
        have Hf : Hid (FstP es up (i : Int)) := Lib.hid <| Or.inr ⟨i, rfl, by have := Hn.out; omega, hst.out.1, fun f hf => by rw [He.out.1] at hf; cases hf; exact hq⟩
        clear he hlt hq
        go_wp2_with fail
        refine HC.out.mono ?_
        rintro r w2 ⟨rfl, hb2⟩
        have H2 : Hid (Below w.heap.size w w2) := hst.out.2.trans (hb2.mono hst.out.2.size)
        clear hb2 HC
        go_wp2_with fail
        go_ret
        exact ⟨_, rfl, Hf.out, H2.out⟩
    · obtain rfl : i = n := by omega
      have Hf : Hid (FstP es up (-1) ∧ Below w.heap.size w wr)   := ⟨Or.inl ⟨rfl, fun j e hj => hst.out.1 j e (by have := (List.getElem?_eq_some_iff.1 hj).1; have := Hn.out; omega) hj⟩, hst.out.2⟩
      clear hst hlt
      go_wp2_with fail
      go_ret
      exact ⟨_, rfl, Hf.out⟩
end
end Go.Proofs.Ytghcfmkmndldoaa

/-
  DeleteFunc of elisions, with Forget's closure.
-/
namespace Go.Proofs.Ytghcfmkmndldoaa
open Go.RowKit Go.Sort Go.Lib

/-- WHERE DeleteFunc STANDS: jj looked at, ii left, in the row's cells L -/
structure DelSt (w wr : World) (g c n up : Nat) (es : List Ec) (L0 : List Value) (ii jj : Nat) : Prop where
  row : ∃ L, RowAt wr g c L ∧ L.take (ii * 3) = cellsE ((es.take jj).filter (newB up)) ∧ L.drop (jj * 3) = L0.drop (jj * 3)
  ii_ : ii = ((es.take jj).filter (newB up)).length
  lt : ii < jj
  le : jj ≤ n
  kept : Kept (fun k => k ≠ g) w wr
/-- three cells set -/
def set3L (L : List Value) (o : Nat) (e : Ec) : List Value := ((L.set o (.string e.1)).set (o + 1) (.string e.2.1)).set (o + 2) (.int .u64 (e.2.2 : Int))
theorem set3L_len (L : List Value) (o : Nat) (e : Ec) : (set3L L o e).length = L.length := by simp [set3L]
theorem set3L_take {L : List Value} {o : Nat} {e : Ec} (h : o + 3 ≤ L.length) : (set3L L o e).take (o + 3) = L.take o ++ cellE e := by
  refine List.ext_getElem? fun k => ?_
  unfold set3L cellE
  rw [List.getElem?_take]
  by_cases hk : k < o + 3
  · rw [if_pos hk, List.getElem?_set, List.getElem?_set, List.getElem?_set]
    simp only [List.length_set]
    have hl : (L.take o).length = o := by rw [List.length_take]; omega
    by_cases k0 : k < o
    · rw [if_neg (by omega), if_neg (by omega), if_neg (by omega), List.getElem?_append_left (by omega), List.getElem?_take, if_pos k0]
    · rw [List.getElem?_append_right (by omega), hl]
      rcases (by omega : k = o ∨ k = o + 1 ∨ k = o + 2) with rfl | rfl | rfl
      · rw [if_neg (by omega), if_neg (by omega), if_pos rfl, if_pos (by omega), Nat.sub_self]; rfl
      · rw [if_neg (by omega), if_pos rfl, if_pos (by omega), Nat.add_sub_cancel_left]; rfl
      · rw [if_pos rfl, if_pos (by omega), Nat.add_sub_cancel_left]; rfl
  · rw [if_neg hk]
    refine (List.getElem?_eq_none ?_).symm
    rw [List.length_append, List.length_take]
    simp
    omega
theorem set3L_drop {L : List Value} {o k : Nat} {e : Ec} (h : o + 3 ≤ k) : (set3L L o e).drop k = L.drop k := by
  unfold set3L
  rw [List.drop_set_of_lt (by omega), List.drop_set_of_lt (by omega), List.drop_set_of_lt (by omega)]
theorem RowAt.set3 {w : World} {g c : Nat} {L : List Value} (h : RowAt w g c L) (o : Nat) (e : Ec) : RowAt (((w.setCell ⟨g, o, none⟩ (.string e.1)).setCell ⟨g, o + 1, none⟩ (.string e.2.1)).setCell ⟨g, o + 2, none⟩ (.int .u64 (e.2.2 : Int))) g c (set3L L o e) := by
  have h1 : Cells w g 32 L := h.at_
  exact ⟨((h1.set o (.string e.1)).set (o + 1) (.string e.2.1)).set (o + 2) (.int .u64 (e.2.2 : Int)), by rw [set3L_len]; exact h.len⟩
theorem drop_cell {L L0 : List Value} {es : List Ec} {n jj : Nat} {e : Ec} (h : L.drop (jj * 3) = L0.drop (jj * 3)) (ht : L0.take (n * 3) = cellsE es) (he : es[jj]? = some e) (hn : n = es.length) :
    L[jj * 3]? = some (.string e.1) ∧ L[jj * 3 + 1]? = some (.string e.2.1) ∧ L[jj * 3 + 2]? = some (.int .u64 (e.2.2 : Int)) := by
  have hlt : jj < n := by rw [hn]; exact (List.getElem?_eq_some_iff.1 he).1
  obtain ⟨c0, c1, c2⟩ := cellsE_get es jj e he
  have hx : ∀ t v, t < 3 → (cellsE es)[jj * 3 + t]? = some v → L[jj * 3 + t]? = some v := fun t v h3 hv => by
    rw [← ht, List.getElem?_take, if_pos (by omega)] at hv
    have := congrArg (fun l => l[t]?) h
    simp only [List.getElem?_drop] at this
    rw [this]
    exact hv
  exact ⟨hx 0 _ (by omega) c0, hx 1 _ (by omega) c1, hx 2 _ (by omega) c2⟩
end Go.Proofs.Ytghcfmkmndldoaa

/-
  DeleteFunc: the walk.
-/
namespace Go.Proofs.Ytghcfmkmndldoaa
open Go.RowKit Go.Sort Go.Lib

section
set_option maxRecDepth 100000
set_option maxHeartbeats 8000000
theorem dele_any (up ub base g n c : Nat) (es : List Ec) (L : List Value) (w : World) (hR : RowAt w g c L) (ht : L.take (n * 3) = cellsE es) (hn : n = es.length) (hbg : base ≤ g) (hcm : c ≤ maxLen) (hnc : n ≤ c) (hu : Cells w ub 24 [.int .u64 (up : Int)]) (hug : ub ≠ g) (hl : n ≤ 1000000000) :
    Calls Try.prog 39 #[.slice (some ⟨g, 0, none⟩) n c, .func (.func 40) #[] #[.pointer (some ⟨ub, 0, none⟩)]] w fun r w' => ∃ m, r = .returned (.slice (some ⟨g, 0, none⟩) m c) ∧ OwnE w' base (.slice (some ⟨g, 0, none⟩) m c) (es.filter (newB up)) ∧ Kept (fun k => k ≠ g) w w' := by
  have ho : OwnE w base (.slice (some ⟨g, 0, none⟩) n c) es := by
    have := OwnE.of_row hR (by rw [← hn]; exact ht) hbg (by omega) hcm
    rwa [← hn] at this
  have hr : RE w w.heap.size (some ⟨g, 0, none⟩) es := by
    obtain ⟨A, c', e, _, _, q, _⟩ := ho.rd
    cases e
    exact q
  have HI := Lib.hid (idxE_any up ub (some ⟨g, 0, none⟩) c es w hr (by omega) hu)
  have H0 : Hid (RowAt w g c L ∧ L.take (n * 3) = cellsE es ∧ base ≤ g ∧ c ≤ maxLen ∧ Cells w ub 24 [.int .u64 (up : Int)] ∧ ub ≠ g ∧ OwnE w base (.slice (some ⟨g, 0, none⟩) n c) es) := ⟨hR, ht, hbg, hcm, hu, hug, ho⟩
  rw [← hn] at HI
  have Hn := Lib.hid hn
  have hl' : (n : Int) ≤ 1000000000 := by omega
  have hnc' : (n : Int) ≤ (c : Int) := by omega
  have Hlen : Hid (∀ k : Nat, k < n → ∃ u, es[k]? = some u) := fun k hk => ⟨_, List.getElem?_eq_getElem (by omega)⟩
  clear hR ht hn hbg hcm hu hug ho hr
  go_enter Try.func39, Try.ntmps39
  go_wp2_with fail
  refine HI.out.mono ?_
  rintro r w1 ⟨z, rfl, hz, hb1⟩
  have Hb1 := Lib.hid hb1
  clear hb1 HI
  rcases hz with ⟨rfl, hall⟩ | ⟨i0, rfl, hi0, hlo, hno⟩
  · have Hf : Hid (OwnE w1 base (.slice (some ⟨g, 0, none⟩) n c) (es.filter (newB up)) ∧ Kept (fun k => k ≠ g) w w1) := by
      refine ⟨?_, (Kept.refl _ _).below Hb1.out⟩
      rw [List.filter_eq_self.2 fun e he => by obtain ⟨j, hj⟩ := List.getElem?_of_mem he; exact hall j e hj]
      exact H0.out.2.2.2.2.2.2.below Hb1.out
    clear hall
    go_wp2_with fail
    go_ret
    exact ⟨n, rfl, Hf.out⟩
  · have hR1 := H0.out.1.below Hb1.out
    have hi0n : i0 < n := by have := Hn.out; omega
    have hm1 : ((i0 : Int) == -1) = false := by rw [beq_eq_false_iff_ne]; omega
    have hm2 : ¬ (i0 : Int) = -1 := by omega
    have Hst0 : Hid (DelSt w w1 g c n up es L i0 (i0 + 1)) := by
      obtain ⟨e, he⟩ := Hlen.out i0 hi0n
      have hfi : (es.take (i0 + 1)).filter (newB up) = es.take i0 := by
        rw [filt_take he, if_neg (by rw [hno e he]; simp), List.append_nil]
        refine List.filter_eq_self.2 fun x hx => ?_
        obtain ⟨j, hj⟩ := List.getElem?_of_mem hx
        rw [List.getElem?_take] at hj
        split at hj
        · rename_i q
          exact hlo j x q hj
        · cases hj
      refine ⟨⟨L, hR1, ?_, rfl⟩, ?_, Nat.lt_succ_self _, hi0n, (Kept.refl _ _).below Hb1.out⟩
      · rw [hfi]
        exact row_take H0.out.2.1 Hn.out (by omega)
      · rw [hfi, List.length_take, ← Hn.out]
        exact (Nat.min_eq_left (by omega)).symm
    clear hlo hno hR1
    go_wp2_with fail
    go_loopw [5, 6] (fun iv jv wr => ∃ ii jj : Nat, iv = .int .i64 (ii : Int) ∧ jv = .int .i64 (jj : Int) ∧ ii < jj ∧ jj ≤ n ∧ Hid (DelSt w wr g c n up es L ii jj)) (fun _ jv _ => n - (intOf jv).toNat)
    case atStart => exact ⟨i0, i0 + 1, rfl, by go_num, Nat.lt_succ_self _, hi0n, Hst0.out⟩
    case round =>
      obtain ⟨ii, jj, rfl, rfl, hij, hjn, hst⟩ := hrel
      by_cases hlt : jj < n
      · obtain ⟨e, he⟩ := Hlen.out jj hlt
        obtain ⟨L1, hL1, hL1t, hL1d⟩ := hst.out.row
        obtain ⟨k0, k1, k2⟩ := drop_cell hL1d H0.out.2.1 he Hn.out
        have x0 := hL1.cell k0
        have x1 := hL1.cell k1
        have x2 := hL1.cell k2
        have hlt' : (jj : Int) < (n : Int) := by omega
        have hii' : (ii : Int) < (n : Int) := by omega
        have He : Hid (es[jj]? = some e ∧ jj < n ∧ ii < jj) := ⟨he, hlt, hij⟩
        obtain ⟨W7, hW7⟩ : ∃ W7, W7 = wr.alloc (.cells #[.string e.1, .string e.2.1, .int .u64 (e.2.2 : Int)] 32) := ⟨_, rfl⟩
        have hb7 : Below wr.heap.size wr W7 := by rw [hW7]; exact (Below.refl _ _).alloc (Nat.le_refl _) _
        have hC7 : Cells W7 wr.heap.size 32 (cellE e) := by rw [hW7]; exact Cells.new wr _ _
        have hu7 : Cells W7 ub 24 [.int .u64 (up : Int)] := by
          have := H0.out.2.2.2.2.1.move (hst.out.kept.block _ H0.out.2.2.2.2.1.lt H0.out.2.2.2.2.2.1)
          exact this.move (hb7.block _ this.lt)
        have HC := Lib.hid (forP_any up ub e W7 hu7)
        unfold eV at HC
        have H7 : Hid (RowAt wr g c L1 ∧ L1.take (ii * 3) = cellsE ((es.take jj).filter (newB up)) ∧ L1.drop (jj * 3) = L.drop (jj * 3) ∧ Below wr.heap.size wr W7 ∧ Cells W7 wr.heap.size 32 (cellE e) ∧ ii = ((es.take jj).filter (newB up)).length ∧ Kept (fun k => k ≠ g) w wr) := ⟨hL1, hL1t, hL1d, hb7, hC7, hst.out.ii_, hst.out.kept⟩
        clear he hlt hst hL1 hL1t hL1d hb7 hC7 hu7 k0 k1 k2
        go_wp2_with fail
        rw [← hW7]
        clear hW7 x0 x1 x2
        refine HC.out.mono ?_
        rintro r w8 ⟨rfl, hb8⟩
        have hW8 : Below wr.heap.size wr w8 := H7.out.2.2.2.1.trans (hb8.mono H7.out.2.2.2.1.size)
        have hC8 := H7.out.2.2.2.2.1.move (hb8.block _ H7.out.2.2.2.2.1.lt)
        have hR8 := H7.out.1.below hW8
        have e0 := hC8.cell (i := 0) rfl
        have e1 := hC8.cell (i := 1) rfl
        have e2 := hC8.cell (i := 2) rfl
        have H8 : Hid (RowAt w8 g c L1 ∧ Kept (fun k => k ≠ g) w w8) := ⟨hR8, H7.out.2.2.2.2.2.2.below hW8⟩
        cases hq : newB up e with
        | false =>
          have Hn9 : Hid (DelSt w w8 g c n up es L ii (jj + 1)) := by
            have hf : (es.take (jj + 1)).filter (newB up) = (es.take jj).filter (newB up) := by rw [filt_take He.out.1, if_neg (by rw [hq]; simp), List.append_nil]
            refine ⟨⟨L1, H8.out.1, by rw [hf]; exact H7.out.2.1, ?_⟩, by rw [hf]; exact H7.out.2.2.2.2.2.1, by have := He.out.2.2; omega, by have := He.out.2.1; omega, H8.out.2⟩
            have q := congrArg (fun l => l.drop 3) H7.out.2.2.1
            simpa [List.drop_drop, Nat.add_mul] using q
          clear hq hb8 hW8 hC8 hR8 HC H7
          go_wp2_with fail
          go_roundw
          case rel => exact ⟨ii, jj + 1, rfl, by go_num, by omega, by have := He.out.2.1; omega, Hn9.out⟩
          case measure => have := He.out.2.1; simp [intOf]; omega
        | true =>
          have hcell : ∀ t, t < 3 → ∃ u, w8.cell? ⟨g, ii * 3 + t, none⟩ = some u := fun t h3 => by
            have hlen := hR8.len
            have h9 := He.out.2
            obtain ⟨u, hu⟩ : ∃ u, L1[ii * 3 + t]? = some u := ⟨_, List.getElem?_eq_getElem (by omega)⟩
            exact ⟨u, hR8.cell hu⟩
          obtain ⟨u0, y0⟩ := hcell 0 (by omega)
          obtain ⟨u1, y1⟩ := hcell 1 (by omega)
          obtain ⟨u2, y2⟩ := hcell 2 (by omega)
          rw [Nat.add_zero] at y0
          have hCg : Cells w8 g 32 L1 := hR8.at_
          have z0 := hCg.frozen (ii * 3)
          have z1 := hCg.frozen (ii * 3 + 1)
          have z2 := hCg.frozen (ii * 3 + 2)
          have Hn9 : Hid (DelSt w (((w8.setCell ⟨g, ii * 3, none⟩ (.string e.1)).setCell ⟨g, ii * 3 + 1, none⟩ (.string e.2.1)).setCell ⟨g, ii * 3 + 2, none⟩ (.int .u64 (e.2.2 : Int))) g c n up es L (ii + 1) (jj + 1)) := by
            have hf : (es.take (jj + 1)).filter (newB up) = (es.take jj).filter (newB up) ++ [e] := by rw [filt_take He.out.1, if_pos hq]
            have hlen := hR8.len
            have h9 := He.out.2
            refine ⟨⟨_, hR8.set3 (ii * 3) e, ?_, ?_⟩, ?_, by omega, by omega, ((H8.out.2.setCell (p := ⟨g, ii * 3, none⟩) (fun q => q rfl) _).setCell (p := ⟨g, ii * 3 + 1, none⟩) (fun q => q rfl) _).setCell (p := ⟨g, ii * 3 + 2, none⟩) (fun q => q rfl) _⟩
            · rw [Nat.add_mul, Nat.one_mul, set3L_take (by omega), H7.out.2.1, hf, cellsE_append]
              rfl
            · rw [set3L_drop (by omega)]
              have q := congrArg (fun l => l.drop 3) H7.out.2.2.1
              simpa [List.drop_drop, Nat.add_mul] using q
            · rw [hf, List.length_append, ← H7.out.2.2.2.2.2.1]
              rfl
          clear hq hb8 hW8 hC8 hR8 HC H7 hCg hcell
          go_wp2_with fail
          go_roundw
          case rel => exact ⟨ii + 1, jj + 1, by go_num, by go_num, by omega, by have := He.out.2.1; omega, Hn9.out⟩
          case measure => have := He.out.2.1; simp [intOf]; omega
      · obtain rfl : jj = n := by omega
        obtain ⟨L1, hL1, hL1t, hL1d⟩ := hst.out.row
        have hci : ¬ c = ii := by omega
        have hic : (ii : Int) ≤ (c : Int) := by omega
        have hin : (ii : Int) ≤ (jj : Int) := by omega
        have Hfit : Hid (ii + (jj - ii) ≤ c) := by show _ ≤ _; omega
        have H9 : Hid (RowAt wr g c L1 ∧ L1.take (ii * 3) = cellsE (es.filter (newB up)) ∧ ii = (es.filter (newB up)).length ∧ Kept (fun k => k ≠ g) w wr) := by
          have e9 : es.take jj = es := List.take_of_length_le (by have := Hn.out; omega)
          have q1 := hst.out.ii_
          rw [e9] at hL1t q1
          exact ⟨hL1, hL1t, q1, hst.out.kept⟩
        have Hij : Hid (ii ≤ c) := by show _ ≤ _; omega
        clear hst hL1 hL1t hL1d hlt
        go_wp2_with fail
        obtain ⟨v7, w7, Z, hrun, h7, hZ, k7⟩ := clear_row_run 0 H9.out.1 ii (jj - ii) (c - ii) Hfit.out (some ⟨g, ii * 3, none⟩) (fun _ => rfl)
        rw [hrun]
        have Hf : Hid (OwnE w7 base (.slice (some ⟨g, 0, none⟩) ii c) (es.filter (newB up)) ∧ Kept (fun k => k ≠ g) w w7) := by
          refine ⟨?_, H9.out.2.2.2.trans k7⟩
          have hlen := H9.out.1.len
          have := OwnE.of_row (base := base) (es := es.filter (newB up)) h7 (by rw [← H9.out.2.2.1, splice_take (Nat.le_refl _) (by have := Hij.out; omega)]; exact H9.out.2.1) H0.out.2.2.1 (by rw [← H9.out.2.2.1]; exact Hij.out) H0.out.2.2.2.1
          rw [← H9.out.2.2.1] at this
          exact this
        clear hrun h7 hZ k7
        go_wp2_with fail
        go_ret
        exact ⟨ii, rfl, Hf.out⟩
end
end Go.Proofs.Ytghcfmkmndldoaa

/-
  The second saying's Rebuild.
-/
import Derived.Test.YtonihcgjepfpkaaRs28
import Derived.Test.YtonihcgjepfpkaaRs18
import Derived.Test.YtonihcgjepfpkaaGf33
namespace Go.Proofs.Ytonihcgjepfpkaa
open Go.RowKit

set_option maxRecDepth 20000
theorem ListO.grownRows {w wr w' : World} {v : Value} {rows : List Value} {M : Mtx} (h : ListO w v rows M wr) (hg : wr.grownBy w' v.ownBlock) : RowsV w' rows M :=
  ⟨h.len, fun i r l hr hl => by
    have ho := h.rows i r l hr hl
    have := ho.move (w' := w') fun b hb => hg.block b (ho.lt b hb).2 fun e => own_head_ne ho h.head b hb e.symm
    obtain ⟨A', c', rfl, h1, h2, _⟩ := this.rb
    exact ⟨A', c', rfl, h2, h1⟩⟩
/-- the header is the call's own; so is a row, or it lies lower -/
structure ListX (w : World) (v : Value) (rows : List Value) (M : Mtx) (wr : World) : Prop where
  head : OwnV wr w.heap.size 41 v rows
  len : rows.length = M.length
  rows : ∀ (t : Nat) (r : Value) (l : List UInt8), rows[t]? = some r → M[t]? = some l → Own wr w.heap.size r l ∨ ∃ A c, r = .slice A l.length c ∧ RB wr w.heap.size A l ∧ l.length ≤ c
  bel : Below w.heap.size w wr
theorem ListX.nil (w : World) : ListX w (.slice none 0 0) [] [] w := ⟨OwnV.nil _ _ _, rfl, fun t r l hr => by simp at hr, Below.refl _ _⟩
theorem ListX.below {w wr w1 : World} {v : Value} {rows : List Value} {M : Mtx} (h : ListX w v rows M wr) (hb : Below wr.heap.size wr w1) : ListX w v rows M w1 :=
  ⟨h.head.move fun g hg => hb.block g (h.head.ge g hg).2, h.len, fun t r l hr hl => by
    rcases h.rows t r l hr hl with ho | ⟨A, c, e, h1, h2⟩
    · exact .inl (ho.below hb)
    · exact .inr ⟨A, c, e, h1.below (hb.mono h.bel.size), h2⟩, h.bel.trans (hb.mono h.bel.size)⟩
theorem ListX.alloc {w wr : World} {v : Value} {rows : List Value} {M : Mtx} (h : ListX w v rows M wr) (o : Obj) : ListX w v rows M (wr.alloc o) := h.below ((Below.refl _ _).alloc (Nat.le_refl _) _)
theorem ListX.push {w wr w' : World} {v v' x : Value} {rows : List Value} {M : Mtx} {l : List UInt8} (h : ListX w v rows M wr) (hx : Own wr w.heap.size x l ∨ ∃ A c, x = .slice A l.length c ∧ RB wr w.heap.size A l ∧ l.length ≤ c) (ho : OwnV w' w.heap.size 41 v' (rows ++ [x])) (hg : wr.grownBy w' v.ownBlock) :
    ListX w v' (rows ++ [x]) (M ++ [l]) w' := by
  have keep : ∀ (r : Value) (y : List UInt8), (Own wr w.heap.size r y ∨ ∃ A c, r = .slice A y.length c ∧ RB wr w.heap.size A y ∧ y.length ≤ c) → (Own w' w.heap.size r y ∨ ∃ A c, r = .slice A y.length c ∧ RB w' w.heap.size A y ∧ y.length ≤ c) := fun r y hr => by
    rcases hr with ho | ⟨A, c, e, h1, h2⟩
    · exact .inl (ho.move fun b hb => hg.block b (ho.lt b hb).2 fun e => own_head_ne ho h.head b hb e.symm)
    · exact .inr ⟨A, c, e, h1.grown hg h.bel.size fun g hg2 => (h.head.ge g hg2).1, h2⟩
  refine ⟨ho, by rw [List.length_append, List.length_append, h.len]; rfl, fun t r y hr hy => ?_, h.bel.grown hg h.bel.size fun g hg2 => (h.head.ge g hg2).1⟩
  by_cases ht : t < rows.length
  · rw [List.getElem?_append_left ht] at hr
    rw [List.getElem?_append_left (by rw [← h.len]; exact ht)] at hy
    exact keep r y (h.rows t r y hr hy)
  · rw [List.getElem?_append_right (by omega)] at hr
    rw [List.getElem?_append_right (by rw [← h.len]; omega), ← h.len] at hy
    have h0 : t - rows.length = 0 := by
      have := (List.getElem?_eq_some_iff.1 hr).1
      simp at this
      omega
    rw [h0] at hr hy
    cases hr
    cases hy
    exact keep _ _ hx
theorem ListX.rm {w wr : World} {v : Value} {rows : List Value} {M : Mtx} (h : ListX w v rows M wr) : ∃ A c, v = .slice A M.length c ∧ RM wr wr.heap.size A M := by
  refine rm_of h.head ⟨h.len, fun i r l hr hl => ?_⟩
  rcases h.rows i r l hr hl with ho | ⟨A, c, e, h1, h2⟩
  · obtain ⟨A', c', rfl, h1, h2, _⟩ := ho.rb
    exact ⟨A', c', rfl, h2, h1⟩
  · exact ⟨A, c, e, h1.wide h.bel.size, h2⟩
theorem own_some {w : World} {lo : Nat} {v : Value} {rows : List Value} (h : OwnV w lo 41 v rows) (h0 : 0 < rows.length) : ∃ g c, v = .slice (some ⟨g, 0, none⟩) rows.length c ∧ g < w.heap.size := by
  rcases h.form with ⟨_, hv⟩ | ⟨g, cap, cur, rfl, hb, hc, hn, hm, hl, ht⟩
  · rw [hv] at h0; simp at h0
  · exact ⟨g, cap, rfl, hc.lt⟩
set_option maxHeartbeats 8000000 in
theorem rreb_any (k N c : Nat) (A : Option Addr) (S : Mtx) (w : World) (h : RM w w.heap.size A S) (hN : N = S.length) (hN2 : N ≤ 40) (hk1 : 1 ≤ k) (hk2 : k ≤ 32) (hl : ∀ (t : Nat) (l : List UInt8), S[t]? = some l → l.length ≤ 4000) :
    Calls Try.prog 17 #[.int .i64 (k : Int), .slice A N c] w (TellsR w (rebL k S) (rebE k S)) := by
  have HT := Lib.hid (there_any k N c A S w h hN hN2 hk2 (fun t l ht => Nat.le_trans (hl t l ht) (by omega)))
  have Hh := Lib.hid h
  have Hl := Lib.hid hl
  have HB : Hid (N = S.length ∧ N ≤ 40 ∧ 1 ≤ k ∧ k ≤ 32) := ⟨hN, hN2, hk1, hk2⟩
  have hk2' : (k : Int) ≤ 32 := by omega
  have hN40 : (N : Int) ≤ 40 := by omega
  clear h hl hN hN2 hk1 hk2
  go_enter Try.func17, Try.ntmps17
  go_wp2_with fail
  refine HT.out.mono ?_
  rintro e w1 (⟨hf, v, rfl, hv, hb1⟩ | ⟨hf, rfl, hb1⟩)
  case inr =>
    have Hd : Hid (rebL k S = [] ∧ rebE k S = 1 ∧ Below w.heap.size w w1) := by
      have : rebB k S = false := by unfold rebB; rw [hf]; rfl
      refine ⟨?_, ?_, hb1⟩
      · unfold rebL; rw [this]; rfl
      · unfold rebE; rw [hf]; rfl
    clear hf hb1 HT
    go_wp2_with fail
    go_ret2
    rw [Hd.out.1, Hd.out.2.1]
    exact ⟨none, 0, rfl, RM.nil _ _ _, Hd.out.2.2⟩
  obtain ⟨Av, cv, rfl, _, _, hrd⟩ := hv.rd
  have hpl := part_length S S.length
  have htl : (thereL S).length = (thereK S S.length).length := rfl
  have hml : (missL S).length = (missK S S.length).length := rfl
  have hS : S.length = k + 2 := by
    unfold fitB at hf
    rw [Bool.and_eq_true, decide_eq_true_eq] at hf
    omega
  rw [ints_length]
  by_cases hm : (missL S).length ≤ 2
  case neg =>
    have Hd : Hid (rebL k S = [] ∧ rebE k S = 7 ∧ Below w.heap.size w w1) := by
      have : rebB k S = false := by unfold rebB; rw [decide_eq_false hm]; exact Bool.and_false _
      refine ⟨?_, ?_, hb1⟩
      · unfold rebL; rw [this]; rfl
      · unfold rebE; rw [if_pos hf, if_neg hm]
    have hlt : ((thereL S).length : Int) < (k : Int) := by omega
    generalize (thereL S).length = tl at *
    clear hf hb1 HT hv hpl htl hml hm hS hrd
    go_wp2_with fail
    go_ret2
    rw [Hd.out.1, Hd.out.2.1]
    exact ⟨none, 0, rfl, RM.nil _ _ _, Hd.out.2.2⟩
  have hB : rebB k S = true := by unfold rebB; rw [hf, decide_eq_true hm]; rfl
  obtain ⟨_, _, g3, g4, g5⟩ := lens_of hB HB.out.2.2.1
  obtain ⟨V, hV⟩ := first_inv (k := k) (by have := HB.out; omega) hS hm
  have hd := first_dim hS g5
  obtain ⟨n, hn⟩ : ∃ n, n = lenS S := ⟨_, rfl⟩
  obtain ⟨f, hfd⟩ : ∃ f, f = (thereL S).take k := ⟨_, rfl⟩
  rw [← hfd] at hV hd
  have hfl : f.length = k := by rw [hfd, List.length_take]; omega
  have hff : ∀ x ∈ f, ∃ m : Nat, x = (m : Int) ∧ m < k + 2 ∧ (S.getD m []).length = n := fun x hx => by
    rw [hfd] at hx
    obtain ⟨m, rfl, hm1, hm2⟩ := (mem_there S.length).1 (List.mem_of_mem_take hx)
    refine ⟨m, rfl, by omega, ?_⟩
    have e := List.getElem?_eq_getElem hm1
    rw [getD_of e] at hm2 ⊢
    rcases g4 m _ e with q | q
    · exact absurd q hm2
    · rw [hn]; exact q
  have hcells : ∀ (i : Nat) (x : Int), f[i]? = some x → ∃ b, Av = some ⟨b, 0, none⟩ ∧ b < w1.heap.size ∧ w1.cell? ⟨b, i, none⟩ = some (.int .i64 x) := fun i x hi => by
    have hik := (List.getElem?_eq_some_iff.1 hi).1
    have : (ints (thereL S))[i]? = some (.int .i64 x) := by
      unfold ints
      rw [List.getElem?_map]
      rw [hfd, List.getElem?_take_of_lt (by omega)] at hi
      rw [hi]; rfl
    obtain ⟨b, rfl, hb, hc⟩ := hrd i _ this
    exact ⟨b, rfl, hb, hc⟩
  obtain ⟨bv, rfl, hbv, hbx⟩ := hcells 0 _ (List.getElem?_eq_getElem (by have := HB.out; omega))
  have HF : Hid (f.length = k ∧ (∀ x ∈ f, ∃ m : Nat, x = (m : Int) ∧ m < k + 2 ∧ (S.getD m []).length = n) ∧ (∀ (i : Nat) (x : Int), f[i]? = some x → w1.cell? ⟨bv, i, none⟩ = some (.int .i64 x)) ∧ bv < w1.heap.size ∧ f = (thereL S).take k) := ⟨hfl, hff, fun i x hi => by
    obtain ⟨b, e, _, hc⟩ := hcells i x hi
    cases e
    exact hc, hbv, hfd⟩
  have HX : Hid (rebB k S = true ∧ invK k (pick (allM k) f) k = some V ∧ Dim (pick (allM k) f) k ∧ 1 ≤ n ∧ n = lenS S ∧ (∀ (i : Nat) (l : List UInt8), S[i]? = some l → l.length = 0 ∨ l.length = n) ∧ S.length = k + 2 ∧ Below w.heap.size w w1 ∧ rebE k S = 0) := ⟨hB, hV, hd, by omega, hn, by rw [hn]; exact g4, hS, hb1, by unfold rebE; rw [if_pos hf, if_pos hm]⟩
  have htk : (k : Int) ≤ ((thereL S).length : Int) := by omega
  have htk2 : ((thereL S).length : Int) ≤ 40 := by have := HB.out; omega
  have Htl : Hid ((thereL S).length ≤ 40 ∧ k ≤ (thereL S).length) := ⟨by have := HB.out; omega, g5⟩
  obtain ⟨tl, htl2⟩ : ∃ tl, tl = (thereL S).length := ⟨_, rfl⟩
  rw [← htl2] at htk htk2 Htl ⊢
  rw [← hn]
  clear hbx hf hv hrd hpl htl hml hS hm hB g3 g4 g5 hV hd hn hfd hfl hff hcells hbv hb1 HT htl2
  have HU : Hid (∀ W, Calls Try.prog 33 #[.int .i64 (k : Int)] W fun e w' => ∃ g cu, e = .returned (.tuple #[.slice (some ⟨g, 0, none⟩) k cu, .int .i64 0]) ∧ MatO w' W.heap.size w'.heap.size (.slice (some ⟨g, 0, none⟩) k cu) (unitM k) ∧ Below W.heap.size W w') := fun W => by
    refine (runit_any k W HB.out.2.2.1 (by have := HB.out; omega)).mono ?_
    rintro e w' ⟨Au, cu, he, mu, bu⟩
    have hul : (unitM k).length = k := by simp [unitM]
    rw [hul] at he mu
    obtain ⟨g, cu', eu, _⟩ := mu.head (by rw [hul]; exact HB.out.2.2.1)
    rw [hul] at eu
    cases eu
    exact ⟨g, cu, he, mu, bu⟩
  have HPr : Hid (∀ W, Calls Try.prog 34 #[.int .i64 (k : Int)] W fun e w' => ∃ g cu, e = .returned (.tuple #[.slice (some ⟨g, 0, none⟩) 2 cu, .int .i64 0]) ∧ MatO w' W.heap.size w'.heap.size (.slice (some ⟨g, 0, none⟩) 2 cu) (pairsM k) ∧ Below W.heap.size W w') := fun W => by
    refine (rpairs_any k W HB.out.2.2.1 (by have := HB.out; omega)).mono ?_
    rintro e w' ⟨Au, cu, he, mu, bu⟩
    have hul : (pairsM k).length = 2 := by simp [pairsM]
    rw [hul] at he mu
    obtain ⟨g, cu', eu, _⟩ := mu.head (by rw [hul]; omega)
    rw [hul] at eu
    cases eu
    exact ⟨g, cu, he, mu, bu⟩
  go_wp2_with fail
  refine (HU.out w1).mono ?_
  rintro e w2 ⟨gu, cu, rfl, mu, bu⟩
  have Hu : Hid (MatO w2 w1.heap.size w2.heap.size (.slice (some ⟨gu, 0, none⟩) k cu) (unitM k) ∧ Below w1.heap.size w1 w2) := ⟨mu, bu⟩
  clear mu bu HU
  go_wp2_with fail
  refine (HPr.out w2).mono ?_
  rintro e w3 ⟨gc, cc, rfl, mc, bc⟩
  have Hb3 : Hid (Below w1.heap.size w1 w3) := Hu.out.2.trans (bc.mono Hu.out.2.size)
  obtain ⟨ru, ou, vu, _, gru⟩ := mat_both (Hu.out.1.below bc)
  obtain ⟨rc, _, vc, hcc, grc⟩ := mat_both mc
  have hgu := mat_head_lt Hu.out.1 (by simp [unitM]; exact HB.out.2.2.1)
  have Hu3 : Hid (OwnV w3 w1.heap.size 41 (.slice (some ⟨gu, 0, none⟩) k cu) ru ∧ (∀ w', w3.grownBy w' (some gu) → RowsV w' (ru ++ rc) (allM k)) ∧ ru.length = k) := ⟨ou, fun w' hg => (gru w' gu hg (.inl rfl)).append (grc w' gu hg (.inr hgu)), by rw [vu.1]; simp [unitM]⟩
  have Hc3 : Hid ((∀ u ∈ rc, u.oneCell' = true) ∧ rc.length = 2 ∧ ∀ (j : Nat) (u : Value), rc[j]? = some u → w3.cell? ⟨gc, j, none⟩ = some u) := ⟨vc.one, by rw [vc.1]; simp [pairsM], hcc⟩
  clear mc bc vc hcc ou vu gru grc hgu HPr Hu
  go_wp2_with (at_builtin; go_must (refine app_many rfl (.tmp 48) (.tmp 49) 22 41 rfl Try.underlying22 (.slice none 0 0) 24 info_row rfl w1.heap.size _ ru rfl Hu3.out.1 ⟨gc, 0, none⟩ 2 cc rc rfl Hc3.out.2.1.symm (fun j u hj => by rw [add_flat, Nat.zero_add]; exact Hc3.out.2.2 j u hj) Hc3.out.1 (by have := Hu3.out.2.2; have := Hc3.out.2.1; have := HB.out; omega) (by have := Hu3.out.2.2; have := Hc3.out.2.1; have := HB.out; omega) Hb3.out.size ?_); intro v4 w4 hown hg _; have Hb4 : Hid (Below w1.heap.size w1 w4) := Hb3.out.grown hg Hb3.out.size (fun g hg => (Hu3.out.1.ge g hg).1); obtain ⟨Aa, ca, ea, ra⟩ := rm_of (M := allM k) hown (Hu3.out.2.1 w4 hg); rw [allM_length] at ea; subst ea; have Hra : Hid (RM w4 w4.heap.size Aa (allM k)) := ra; clear hown hg ra Hu3 Hc3 Hb3)
  obtain ⟨ba, oa, rfl, hba⟩ := Hra.out.at_ (by rw [allM_length]; omega)
  have Hba := Lib.hid hba
  have Hst : Hid (ListR w4 (.slice none 0 0) [] ((pick (allM k) f).take 0) w4) := ListR.nil _ _ (Below.refl _ _)
  have hpk : (pick (allM k) f).length = k := by rw [pick_length]; exact HF.out.1
  have Hpk := Lib.hid hpk
  clear hpk hba
  go_wp2_with fail
  go_loopw [13, 14] (fun vv iv wz => ∃ (v : Value) (t : Nat) (rows : List Value), vv = v ∧ iv = .int .i64 (t : Int) ∧ t ≤ k ∧ Hid (ListR w4 v rows ((pick (allM k) f).take t) wz)) (fun _ iv _ => k - (intOf iv).toNat)
  case atStart => exact ⟨_, 0, _, rfl, rfl, Nat.zero_le _, Hst.out⟩
  case round =>
    obtain ⟨v, i, rows, rfl, rfl, hi, hrel⟩ := hrel
    by_cases hlt : i < k
    · have hlt' : (i : Int) < (k : Int) := by omega
      obtain ⟨x, hx⟩ : ∃ x, f[i]? = some x := ⟨_, List.getElem?_eq_getElem (by rw [HF.out.1]; exact hlt)⟩
      obtain ⟨xn, rfl, hxk, _⟩ := HF.out.2.1 x (List.mem_of_getElem? hx)
      have k1 : wr.cell? ⟨bv, i, none⟩ = some (.int .i64 (xn : Int)) := ((Hb4.out.trans (hrel.out.bel.mono Hb4.out.size)).cell (p := ⟨bv, i, none⟩) HF.out.2.2.2.1).trans (HF.out.2.2.1 i _ hx)
      obtain ⟨l, hl⟩ : ∃ l, (allM k)[xn]? = some l := ⟨_, List.getElem?_eq_getElem (by rw [allM_length]; exact hxk)⟩
      obtain ⟨A', c', hc, hrb, hcap⟩ := Hra.out.row hl
      have k2 : wr.cell? ⟨ba, oa + xn, none⟩ = some (.slice A' l.length c') := (hrel.out.bel.cell (p := ⟨ba, oa + xn, none⟩) Hba.out).trans hc
      have hpi : (pick (allM k) f)[i]? = some l := by
        unfold pick
        rw [List.getElem?_map, hx]
        show some ((allM k).getD (Int.toNat (xn : Int)) []) = _
        rw [Int.toNat_natCast, getD_of hl]
      have hxk' : (xn : Int) < (k : Int) + 2 := by omega
      have hrows : rows.length = i := by
        rw [hrel.out.len, List.length_take, Hpk.out]; omega
      have HSt : Hid (OwnV (wr.alloc (.cells #[.slice A' l.length c'] 41)) w4.heap.size 41 u13 rows ∧ w4.heap.size ≤ wr.heap.size ∧ ∀ v' w', OwnV w' w4.heap.size 41 v' (rows ++ [.slice A' l.length c']) → (wr.alloc (.cells #[.slice A' l.length c'] 41)).grownBy w' u13.ownBlock → ListR w4 v' (rows ++ [.slice A' l.length c']) ((pick (allM k) f).take (i + 1)) w') := by
        rw [List.take_add_one, hpi]
        exact ⟨(hrel.out.alloc _).head, hrel.out.bel.size, fun v' w' q1 q2 => (hrel.out.alloc _).push ((hrb.below hrel.out.bel).alloc hrel.out.bel.size _) hcap q1 q2⟩
      generalize l.length = ll at *
      clear hx hl hc hrb hcap hpi hrel hlt hxk
      go_wp2_with (at_builtin; go_must (refine app_one rfl (.tmp 56) (.tmp 64) 22 41 rfl Try.underlying22 (.slice none 0 0) 24 info_row rfl w4.heap.size _ rows rfl HSt.out.1 ⟨wr.heap.size, 0, none⟩ 1 _ rfl (cell_new _ _ _) rfl (by omega) (by omega) (by have := HSt.out.2.1; simp; omega) ?_); intro v9 W9 hown9 hg9 _; have Hn9 := Lib.hid (HSt.out.2.2 v9 W9 hown9 hg9); clear hown9 hg9)
      go_roundw
      case rel => exact ⟨v9, i + 1, _, rfl, by go_num, by omega, Hn9.out⟩
      case measure => simp [intOf]; omega
    obtain rfl : i = k := by omega
    have hpt : (pick (allM i) f).take i = pick (allM i) f := List.take_of_length_le (by rw [Hpk.out]; exact Nat.le_refl _)
    rw [hpt] at hrel
    obtain ⟨A5, c5, e5, _, r5⟩ := hrel.out.rm
    rw [Hpk.out] at e5
    subst e5
    have HInv : Hid (Calls Try.prog 35 #[.slice A5 i c5] wr fun e w' => ∃ A7 c7, e = .returned (.tuple #[.slice A7 i c7, .int .i64 0]) ∧ RM w' w'.heap.size A7 V.2 ∧ Below wr.heap.size wr w') := by
      refine (rinverse_sq A5 c5 i _ wr r5 HB.out.2.2.1 (by have := HB.out; omega) HX.out.2.2.1 (right_dim' HX.out.2.2.1 HB.out.2.2.1 (by have := HB.out; omega))).mono ?_
      rintro e w' (⟨V', hV', A7, c7, e7, r7, b7⟩ | ⟨hno, _⟩)
      · rw [HX.out.2.1] at hV'
        cases hV'
        rw [(invK_good HX.out.2.2.1 i V (Nat.le_refl _) HX.out.2.1).d2.1] at e7
        exact ⟨A7, c7, e7, r7, b7⟩
      · rw [HX.out.2.1] at hno; cases hno
    have HB5 : Hid (Below w1.heap.size w1 wr) := Hb4.out.trans (hrel.out.bel.mono Hb4.out.size)
    clear hrel hlt hpt r5
    go_wp2_with fail
    refine HInv.out.mono ?_
    rintro e w6 ⟨A7, c7, rfl, r7, b7⟩
    have H6 : Hid (RM w6 w6.heap.size A7 V.2 ∧ Below w1.heap.size w1 w6) := ⟨r7, HB5.out.trans (b7.mono HB5.out.size)⟩
    clear r7 b7 HInv HB5
    go_wp2_with fail
    have HdV : Hid (Dim V.2 i) := (invK_good HX.out.2.2.1 i V (Nat.le_refl _) HX.out.2.1).d2
    obtain ⟨b7, o7, rfl, hb7⟩ := H6.out.1.at_ (by rw [HdV.out.1]; exact HB.out.2.2.1)
    obtain ⟨bS, oS, rfl, hbS⟩ := Hh.out.at_ (by have := HX.out.2.2.2.2.2.2.1; omega)
    have hn4 : n ≤ 4000 := by
      obtain ⟨x, hx⟩ : ∃ x, f[0]? = some x := ⟨_, List.getElem?_eq_getElem (by rw [HF.out.1]; exact HB.out.2.2.1)⟩
      obtain ⟨m, rfl, hm1, hm2⟩ := HF.out.2.1 x (List.mem_of_getElem? hx)
      have e := List.getElem?_eq_getElem (show m < S.length by have := HX.out.2.2.2.2.2.2.1; omega)
      rw [getD_of e] at hm2
      have := Hl.out m _ e
      omega
    have hsrcl : ∀ (t : Nat) (l : List UInt8), (pick S f)[t]? = some l → l.length = n := fun t l hl => by
      unfold pick at hl
      rw [List.getElem?_map] at hl
      obtain ⟨x, hx, rfl⟩ := Option.map_eq_some_iff.1 hl
      obtain ⟨m, rfl, _, hm2⟩ := HF.out.2.1 x (List.mem_of_getElem? hx)
      rw [Int.toNat_natCast]; exact hm2
    have Hsrc : Hid ((∀ (t : Nat) (l : List UInt8), (pick S f)[t]? = some l → l.length = n) ∧ (pick S f).length = i ∧ n ≤ 4000 ∧ 1 ≤ n ∧ b7 < w6.heap.size ∧ bS < w.heap.size) := ⟨hsrcl, by rw [pick_length]; exact HF.out.1, hn4, HX.out.2.2.2.1, hb7, hbS⟩
    have Hbw6 : Hid (Below w.heap.size w w6) := HX.out.2.2.2.2.2.2.2.1.trans (H6.out.2.mono HX.out.2.2.2.2.2.2.2.1.size)
    obtain ⟨ds, Hds, hmd⟩ := make_run n (by omega)
    have hn4' : (n : Int) ≤ 4000 := by omega
    have HDl : Hid ((linM V.2 (pick S f) n).length = i) := by
      show _ = _
      rw [linM_length, HdV.out.1]
    have Hst2 : Hid (ListO w6 (.slice none 0 0) [] ((linM V.2 (pick S f) n).take 0) w6) := ListO.nil _ _ (Below.refl _ _)
    clear hn4 hsrcl hb7 hbS
    go_loopw [17, 18] (fun vv jv wz => ∃ (v : Value) (t : Nat) (rows : List Value), vv = v ∧ jv = .int .i64 (t : Int) ∧ t ≤ i ∧ Hid (ListO w6 v rows ((linM V.2 (pick S f) n).take t) wz)) (fun _ jv _ => i - (intOf jv).toNat)
    case atStart => exact ⟨_, 0, _, rfl, rfl, Nat.zero_le _, Hst2.out⟩
    case round =>
      obtain ⟨v, j, rows, rfl, rfl, hj, hrel⟩ := hrel
      by_cases hlt : j < i
      · have hlt' : (j : Int) < (i : Int) := by omega
        obtain ⟨r, hr⟩ : ∃ r, V.2[j]? = some r := ⟨_, List.getElem?_eq_getElem (by rw [HdV.out.1]; exact hlt)⟩
        have hrl := HdV.out.2 j r hr
        obtain ⟨A8, c8, hc8, hr8, hcap8⟩ := H6.out.1.row hr
        obtain ⟨b8, o8, rfl, hb8⟩ := hr8.flat (by rw [hrl]; exact HB.out.2.2.1)
        rw [hrl] at hc8
        obtain ⟨bs, hbs⟩ : ∃ bs, bs = wr.heap.size := ⟨_, rfl⟩
        have HR : Hid (V.2[j]? = some r ∧ r.length = i ∧ (∀ W, Below w6.heap.size w6 W → W.cell? ⟨b7, o7 + j, none⟩ = some (.slice (some ⟨b8, o8, none⟩) i c8)) ∧ (∀ W, Below w6.heap.size w6 W → ∀ (t : Nat) (y : UInt8), r[t]? = some y → W.cell? ⟨b8, o8 + t, none⟩ = some (.int .u8 (y.toNat : Int))) ∧ w6.heap.size ≤ bs ∧ rows.length = j) := ⟨hr, hrl, fun W hW => (hW.cell (p := ⟨b7, o7 + j, none⟩) Hsrc.out.2.2.2.2.1).trans hc8, fun W hW t y hy => by
          obtain ⟨ad, e, _, hc⟩ := hr8 t y hy
          cases e
          rw [add_flat] at hc
          exact (hW.cell (p := ⟨b8, o8 + t, none⟩) hb8).trans hc, by rw [hbs]; exact hrel.out.bel.size, by rw [hrel.out.len, List.length_take, HDl.out]; omega⟩
        have Hrel := Lib.hid hrel.out
        have HS0 : Hid (Blk (wr.alloc (.cells ds 5)) bs (linK r (pick S f) n 0) ∧ Below bs wr (wr.alloc (.cells ds 5))) := by
          refine ⟨?_, (Below.refl _ _).alloc (by rw [hbs]; exact Nat.le_refl _) _⟩
          rw [hbs]
          unfold Blk
          rw [heap_alloc_new, Hds.out]
          rfl
        have Hch : Hid (∀ W, Below bs wr W → Below w6.heap.size w6 W) := fun W hW => Hrel.out.bel.trans (hW.mono (by rw [hbs]; exact Hrel.out.bel.size))
        clear hrel hlt hr hrl hc8 hr8 hcap8 hb8
        obtain ⟨wo, rfl⟩ : ∃ wo : World, wo = wr := ⟨_, rfl⟩
        go_wp2_with fail
        rw [← hbs]
        have Hbs := Lib.hid hbs
        clear hbs
        go_loopw [20] (fun iv wz => ∃ t : Nat, iv = .int .i64 (t : Int) ∧ t ≤ i ∧ Hid (Blk wz bs (linK r (pick S f) n t) ∧ Below bs wo wz)) (fun iv _ => i - (intOf iv).toNat)
        case atStart => exact ⟨0, rfl, Nat.zero_le _, HS0.out⟩
        case round =>
          obtain ⟨t, rfl, ht, hrel⟩ := hrel
          by_cases htl : t < i
          · have htl' : (t : Int) < (i : Int) := by omega
            obtain ⟨y, hy⟩ : ∃ y, r[t]? = some y := ⟨_, List.getElem?_eq_getElem (by rw [HR.out.2.1]; exact htl)⟩
            have hbe := Hch.out wr hrel.out.2
            have k1 := HR.out.2.2.1 wr hbe
            have k2 := HR.out.2.2.2.1 wr hbe t y hy
            have k1' : (i : Int) ≤ (c8 : Int) ∨ True := .inr trivial
            obtain ⟨x, hx⟩ : ∃ x, f[t]? = some x := ⟨_, List.getElem?_eq_getElem (by rw [HF.out.1]; exact htl)⟩
            obtain ⟨xn, rfl, hxk, hxl⟩ := HF.out.2.1 x (List.mem_of_getElem? hx)
            obtain ⟨l, hl⟩ : ∃ l, S[xn]? = some l := ⟨_, List.getElem?_eq_getElem (by have := HX.out.2.2.2.2.2.2.1; omega)⟩
            rw [getD_of hl] at hxl
            have hpt : (pick S f)[t]? = some l := by
              unfold pick
              rw [List.getElem?_map, hx]
              show some (S.getD (Int.toNat (xn : Int)) []) = _
              rw [Int.toNat_natCast, getD_of hl]
            have hkl := linK_length r (pick S f) n Hsrc.out.1 t (by rw [Hsrc.out.2.1]; exact ht)
            have hnext : linK r (pick S f) n (t + 1) = addR (linK r (pick S f) n t) l y := by
              show addR (linK r (pick S f) n t) ((pick S f).getD t []) (r.getD t 0) = _
              rw [getD_of hpt, getD8 hy]
            by_cases hy0 : y = 0
            · have Hn : Hid (Blk wr bs (linK r (pick S f) n (t + 1)) ∧ Below bs wo wr) := by
                rw [hnext, hy0]
                have : addR (linK r (pick S f) n t) l 0 = linK r (pick S f) n t := by
                  rw [← addP_done _ _ _ (by rw [hkl, hxl])]
                  refine bytes_ext (n := n) (by rw [addP_length _ _ _ _ (by rw [hkl, hxl])]; exact hkl) hkl fun b hb => ?_
                  rw [addP_done _ _ _ (by rw [hkl, hxl]), add_get _ _ _ (by rw [hkl, hxl])]
                  rw [bm_zero']
                  exact UInt8.xor_zero
                rw [this]
                exact hrel.out
              have z0 : (y.toNat : Int) = 0 := by rw [hy0]; rfl
              rw [z0] at k2
              clear hrel htl hy hbe hx hl hpt hkl hnext hxl hxk hy0 z0 k1'
              go_wp2_with fail
              go_roundw
              case rel => exact ⟨t + 1, by go_num, by omega, Hn.out⟩
              case measure => simp [intOf]; omega
            have h0 : ((y.toNat : Int) == 0) = false := by
              have : y.toNat ≠ 0 := fun e => hy0 (UInt8.toNat_inj.1 e)
              simp; omega
            obtain ⟨A9, c9, hc9, hr9, hcap9⟩ := Hh.out.row hl
            obtain ⟨b9, o9, rfl, hb9⟩ := hr9.flat (by rw [hxl]; exact Hsrc.out.2.2.2.1)
            rw [hxl] at hc9
            have HQ : Hid (l.length = n ∧ (linK r (pick S f) n t).length = n ∧ linK r (pick S f) n (t + 1) = addR (linK r (pick S f) n t) l y ∧ (∀ W, Below bs wo W → W.cell? ⟨b7, o7 + j, none⟩ = some (.slice (some ⟨b8, o8, none⟩) i c8) ∧ W.cell? ⟨b8, o8 + t, none⟩ = some (.int .u8 (y.toNat : Int)) ∧ W.cell? ⟨bv, t, none⟩ = some (.int .i64 (xn : Int)) ∧ W.cell? ⟨bS, oS + xn, none⟩ = some (.slice (some ⟨b9, o9, none⟩) n c9) ∧ ∀ (q : Nat) (z : UInt8), l[q]? = some z → W.cell? ⟨b9, o9 + q, none⟩ = some (.int .u8 (z.toNat : Int)))) :=
              ⟨hxl, hkl, hnext, fun W hW => by
                have h6 := Hch.out W hW
                have h1 : Below w1.heap.size w1 W := H6.out.2.trans (h6.mono H6.out.2.size)
                have hw : Below w.heap.size w W := Hbw6.out.trans (h6.mono Hbw6.out.size)
                refine ⟨HR.out.2.2.1 W h6, HR.out.2.2.2.1 W h6 t y hy, (h1.cell (p := ⟨bv, t, none⟩) HF.out.2.2.2.1).trans (HF.out.2.2.1 t _ hx), (hw.cell (p := ⟨bS, oS + xn, none⟩) Hsrc.out.2.2.2.2.2).trans hc9, fun q z hz => ?_⟩
                obtain ⟨ad, e, _, hc⟩ := hr9 q z hz
                cases e
                rw [add_flat] at hc
                exact (hw.cell (p := ⟨b9, o9 + q, none⟩) hb9).trans hc⟩
            have Hs3 : Hid (Blk wr bs (addP (linK r (pick S f) n t) l y 0) ∧ Below bs wo wr) := by
              rw [show addP (linK r (pick S f) n t) l y 0 = linK r (pick S f) n t by simp [addP]]
              exact hrel.out
            have hxN : (xn : Int) < (N : Int) := by have := HB.out.1; have := HX.out.2.2.2.2.2.2.1; omega
            have htt : (t : Int) < (tl : Int) := by omega
            clear hrel htl hy hbe hx hl hpt hkl hnext hxl hxk hy0 k1' hc9 hr9 hcap9 hb9
            obtain ⟨wi, rfl⟩ : ∃ wi : World, wi = wr := ⟨_, rfl⟩
            go_wp2_with fail
            clear k1 k2
            go_loopw [21] (fun bv9 wz => ∃ b : Nat, bv9 = .int .i64 (b : Int) ∧ b ≤ n ∧ Hid (Blk wz bs (addP (linK r (pick S f) n t) l y b) ∧ Below bs wo wz)) (fun bv9 _ => n - (intOf bv9).toNat)
            case atStart => exact ⟨0, rfl, Nat.zero_le _, Hs3.out⟩
            case round =>
              obtain ⟨b, rfl, hbn, hrel⟩ := hrel
              by_cases hbl : b < n
              · have hbl' : (b : Int) < (n : Int) := by omega
                obtain ⟨p0, hp0⟩ : ∃ p0, (linK r (pick S f) n t)[b]? = some p0 := ⟨_, List.getElem?_eq_getElem (by rw [HQ.out.2.1]; exact hbl)⟩
                obtain ⟨z, hz⟩ : ∃ z, l[b]? = some z := ⟨_, List.getElem?_eq_getElem (by rw [HQ.out.1]; exact hbl)⟩
                have hle : (linK r (pick S f) n t).length = l.length := by rw [HQ.out.1, HQ.out.2.1]
                obtain ⟨s1, s2, s3⟩ := blk_at (w := wr) (g := bs) (i := b) (L := addP (linK r (pick S f) n t) l y b) (a := p0) (by rw [set_same' (addP_get _ _ _ _ _ hle hp0)]; exact hrel.out.1) (by rw [addP_length _ _ _ _ hle, HQ.out.2.1]; exact hbl)
                have hn3 := fun q => s3 q (p0 ^^^ bm z y)
                rw [addP_step _ _ _ _ _ _ hle hp0 hz] at hn3
                obtain ⟨k1, k2, k3, k4, k5⟩ := HQ.out.2.2.2 wr hrel.out.2
                have k6 := k5 b z hz
                have HM : Hid (∀ W, Calls Try.prog 36 #[.int .u8 (y.toNat : Int), .int .u8 (z.toNat : Int)] W fun e w' => e = .returned (.int .u8 ((bm y z).toNat : Int)) ∧ w' = W) := fun W => by
                  have := rmul_any y.toNat z.toNat W (u8_lt y) (u8_lt z)
                  rw [← bm_nat] at this
                  exact this.mono fun _ _ ⟨a, b⟩ => ⟨a, b.symm⟩
                have e2 : bits .xor .u8 (p0.toNat : Int) ((bm y z).toNat : Int) = ((p0 ^^^ bm z y).toNat : Int) := by rw [u8_xor_nat _ _ (u8_lt _) (u8_lt _), ← bx_nat, bm_comm y z]
                have Hn : Hid (∀ q, Blk ((wr.setCell ⟨bs, b, none⟩ (.int .u8 ((p0 ^^^ bm z y).toNat : Int))).drewN q) bs (addP (linK r (pick S f) n t) l y (b + 1)) ∧ Below bs wo ((wr.setCell ⟨bs, b, none⟩ (.int .u8 ((p0 ^^^ bm z y).toNat : Int))).drewN q)) := fun q => ⟨hn3 q, drewN_below (hrel.out.2.setCell (p := ⟨bs, b, none⟩) (Nat.le_refl _) _) q⟩
                generalize (p0 ^^^ bm z y).toNat = v1 at *
                generalize (bm y z).toNat = v2 at *
                generalize p0.toNat = v3 at *
                generalize z.toNat = v4 at *
                generalize hyn : y.toNat = v5 at *
                clear hp0 hz hle s3 hn3 k5 hrel hbl hyn
                go_wp2_with fail
                refine wp_region_still_tail 26 (by kernel_rfl) (by kernel_rfl) ?_
                simp only [List.take_succ_cons, List.take_zero, List.drop_succ_cons, List.drop_zero]
                repeat (first | still_step | still_call (HM.out _))
                try refine wpStill_nil ?_
                change wpList _ _ _ _ _ wr.drew
                go_wp2_with fail
                go_roundw
                case rel => exact ⟨b + 1, by go_num, by omega, Hn.out 1⟩
                case measure => simp [intOf]; omega
              · obtain rfl : b = n := by omega
                have Hn : Hid (Blk wr bs (linK r (pick S f) b (t + 1)) ∧ Below bs wo wr) := by
                  rw [HQ.out.2.2.1]
                  have := hrel.out
                  have e := addP_done (linK r (pick S f) b t) l y (by rw [HQ.out.1, HQ.out.2.1])
                  rw [HQ.out.2.1] at e
                  rw [e] at this
                  exact this
                clear hrel hbl
                go_wp2_with fail
                go_roundw
                case rel => exact ⟨t + 1, by go_num, by omega, Hn.out⟩
                case measure => simp [intOf]; omega
          obtain rfl : i = t := by omega
          have hlin : linK r (pick S f) n i = lin r (pick S f) n := by unfold lin; rw [HR.out.2.1]
          have hll := lin_length (r := r) (L := pick S f) (n := n) (by rw [HR.out.2.1, Hsrc.out.2.1]; exact Nat.le_refl _) Hsrc.out.1
          have HSt : Hid (OwnV (wr.alloc (.cells #[.slice (some ⟨bs, 0, none⟩) n n] 41)) w6.heap.size 41 u17 rows ∧ w6.heap.size ≤ wr.heap.size ∧ ∀ v' w', OwnV w' w6.heap.size 41 v' (rows ++ [.slice (some ⟨bs, 0, none⟩) n n]) → (wr.alloc (.cells #[.slice (some ⟨bs, 0, none⟩) n n] 41)).grownBy w' u17.ownBlock → ListO w6 v' (rows ++ [.slice (some ⟨bs, 0, none⟩) n n]) ((linM V.2 (pick S f) n).take (j + 1)) w') := by
            have h1 := Hrel.out.below (w1 := wr) (by rw [← Hbs.out]; exact hrel.out.2)
            have h2 := hrel.out.1
            rw [hlin] at h2
            have h3 := (h2.alloc (.cells #[.slice (some ⟨bs, 0, none⟩) n n] 41)).own (base := w6.heap.size) HR.out.2.2.2.2.1 (by have := Hsrc.out; omega)
            rw [hll] at h3
            rw [List.take_add_one, linM_get _ _ _ _ _ HR.out.1]
            exact ⟨(h1.alloc _).head, h1.bel.size, fun v' w' q1 q2 => (h1.alloc _).push h3 q1 q2⟩
          have hrj := HR.out.2.2.2.2.2
          have hj32 : j ≤ 32 := by have := HB.out; omega
          clear hrel htl hlin hll
          go_wp2_with (at_builtin; go_must (refine app_one rfl (.tmp 122) (.tmp 124) 22 41 rfl Try.underlying22 (.slice none 0 0) 24 info_row rfl w6.heap.size _ rows rfl HSt.out.1 ⟨wr.heap.size, 0, none⟩ 1 _ rfl (cell_new _ _ _) rfl (by omega) (by omega) (by have := HSt.out.2.1; simp; omega) ?_); intro v9 W9 hown9 hg9 _; have Hn9 := Lib.hid (HSt.out.2.2 v9 W9 hown9 hg9); clear hown9 hg9)
          go_roundw
          case rel => exact ⟨v9, j + 1, _, rfl, by go_num, by omega, Hn9.out⟩
          case measure => simp [intOf]; omega
      obtain rfl : i = j := by omega
      have hDt : (linM V.2 (pick S f) n).take i = linM V.2 (pick S f) n := List.take_of_length_le (by rw [HDl.out]; exact Nat.le_refl _)
      rw [hDt] at hrel
      obtain ⟨D, hD⟩ : ∃ D, D = linM V.2 (pick S f) n := ⟨_, rfl⟩
      have HDr : Hid (D.length = i ∧ (∀ (t : Nat) (l : List UInt8), D[t]? = some l → l.length = n) ∧ D = linM V.2 (pick S f) n) := ⟨by rw [hD]; exact HDl.out, fun t l hl => by
        rw [hD] at hl
        unfold linM at hl
        rw [List.getElem?_map] at hl
        obtain ⟨r, hr, rfl⟩ := Option.map_eq_some_iff.1 hl
        exact lin_length (by rw [HdV.out.2 t r hr, Hsrc.out.2.1]; exact Nat.le_refl _) Hsrc.out.1, hD⟩
      rw [← hD] at hrel
      obtain ⟨gd, cd, ed, hgd⟩ := own_some hrel.out.head (by rw [hrel.out.len, HDr.out.1]; exact HB.out.2.2.1)
      have hrl : rows.length = i := by rw [hrel.out.len, HDr.out.1]
      rw [hrl] at ed
      subst ed
      obtain ⟨Ad, cd', ed', _, rd⟩ := hrel.out.rm
      rw [HDr.out.1] at ed'
      cases ed'
      have HLD : Hid (ListO w6 (.slice (some ⟨gd, 0, none⟩) i cd) rows D wr ∧ gd < wr.heap.size ∧ rows.length = i) := ⟨hrel.out, hgd, hrl⟩
      have HPD := Lib.hid (rparity_any (some ⟨gd, 0, none⟩) cd i n D wr rd HDr.out.1.symm HB.out.2.2.1 (by have := HB.out; omega) Hsrc.out.2.2.2.1 (by have := Hsrc.out; omega) HDr.out.2.1)
      obtain ⟨wd, rfl⟩ : ∃ wd : World, wd = wr := ⟨_, rfl⟩
      clear hrel hlt hDt hD hgd hrl rd hmd
      go_wp2_with fail
      refine HPD.out.mono ?_
      rintro e w8 ⟨gp, rfl, mp, bp⟩
      obtain ⟨rp, _, vp, hcp, grp⟩ := mat_both mp
      have hL8 := HLD.out.1.below bp
      have HP8 : Hid ((∀ u ∈ rp, u.oneCell' = true) ∧ rp.length = 2 ∧ (∀ (j : Nat) (u : Value), rp[j]? = some u → w8.cell? ⟨gp, j, none⟩ = some u) ∧ (∀ w', w8.grownBy w' (some gd) → RowsV w' (rows ++ rp) (allD i n D)) ∧ Below w6.heap.size w6 w8 ∧ OwnV w8 w6.heap.size 41 (.slice (some ⟨gd, 0, none⟩) i cd) rows) :=
        ⟨vp.one, by rw [vp.1]; rfl, hcp, fun w' hg => (hL8.grownRows hg).append (grp w' gd hg (.inr HLD.out.2.1)), hL8.bel, hL8.head⟩
      have hr32 : rows.length ≤ 32 := by have := HLD.out.2.2; have := HB.out; omega
      have hrp2 := HP8.out.2.1
      clear mp bp vp hcp grp hL8 HPD
      go_wp2_with (at_builtin; go_must (refine app_many rfl (.tmp 126) (.tmp 128) 22 41 rfl Try.underlying22 (.slice none 0 0) 24 info_row rfl w6.heap.size _ rows rfl HP8.out.2.2.2.2.2 ⟨gp, 0, none⟩ 2 2 rp rfl hrp2.symm (fun j u hj => by rw [add_flat, Nat.zero_add]; exact HP8.out.2.2.1 j u hj) HP8.out.1 (by omega) (by omega) HP8.out.2.2.2.2.1.size ?_); intro v9 w9 hown hg _; have Hb9 : Hid (Below w6.heap.size w6 w9) := HP8.out.2.2.2.2.1.grown hg HP8.out.2.2.2.2.1.size (fun g hg => (HP8.out.2.2.2.2.2.ge g hg).1); obtain ⟨A9, c9, e9, r9⟩ := rm_of (M := allD i n D) hown (HP8.out.2.2.2.1 w9 hg); rw [allD_length HDr.out.1] at e9; subst e9; have Hr9 : Hid (RM w9 w9.heap.size A9 (allD i n D)) := r9; clear hown hg r9 HP8)
      obtain ⟨bx, ox, rfl, hbx⟩ := Hr9.out.at_ (by rw [allD_length HDr.out.1]; omega)
      have HRes : Hid (∀ t : Nat, t < i + 2 → (rebL i S)[t]? = some (if (S.getD t []).length = 0 then (allD i n D).getD t [] else S.getD t [])) := fun t ht => by
        have hV := HX.out.2.1
        rw [HF.out.2.2.2.2] at hV
        rw [reb_get HX.out.1 HB.out.2.2.1 (by have := HB.out; omega) hV ht, ← HF.out.2.2.2.2, ← HX.out.2.2.2.2.1, ← HDr.out.2.2, getD_of (allD_get HDr.out.1 HDr.out.2.1 ht)]
      have HRl : Hid ((rebL i S).length = i + 2 ∧ bx < w9.heap.size ∧ Below w.heap.size w w9 ∧ N = i + 2) := ⟨by
        unfold rebL
        rw [if_pos HX.out.1, setK_length]
        exact HX.out.2.2.2.2.2.2.1, hbx, Hbw6.out.trans (Hb9.out.mono Hbw6.out.size), by rw [HB.out.1]; exact HX.out.2.2.2.2.2.2.1⟩
      have Hst9 : Hid (ListX w9 (.slice none 0 0) [] ((rebL i S).take 0) w9) := ListX.nil _
      have hNi : (N : Int) = (i : Int) + 2 := by have := HRl.out.2.2.2; omega
      clear hbx
      go_loopw [22, 23] (fun vv tv wz => ∃ (v : Value) (t : Nat) (rows : List Value), vv = v ∧ tv = .int .i64 (t : Int) ∧ t ≤ i + 2 ∧ Hid (ListX w9 v rows ((rebL i S).take t) wz)) (fun _ tv _ => i + 2 - (intOf tv).toNat)
      case atStart => exact ⟨_, 0, _, rfl, rfl, Nat.zero_le _, Hst9.out⟩
      case round =>
        obtain ⟨v, t, rws, rfl, rfl, ht, hrel⟩ := hrel
        by_cases htl : t < i + 2
        · have htl' : (t : Int) < (N : Int) := by omega
          have htl2 : (t : Int) < (i : Int) + 2 := by omega
          obtain ⟨l, hl⟩ : ∃ l, S[t]? = some l := ⟨_, List.getElem?_eq_getElem (by have := HX.out.2.2.2.2.2.2.1; omega)⟩
          have hbw : Below w.heap.size w wr := HRl.out.2.2.1.trans (hrel.out.bel.mono HRl.out.2.2.1.size)
          obtain ⟨A', c', hc, hrb, _⟩ := Hh.out.row hl
          have k1 : wr.cell? ⟨bS, oS + t, none⟩ = some (.slice A' l.length c') := (hbw.cell (p := ⟨bS, oS + t, none⟩) Hsrc.out.2.2.2.2.2).trans hc
          have hres := HRes.out t htl
          rw [getD_of hl] at hres
          have hrl : rws.length = t := by rw [hrel.out.len, List.length_take, HRl.out.1]; omega
          have ht34 : t ≤ 34 := by have := HB.out; omega
          by_cases h0 : l.length = 0
          · rw [h0] at k1
            rw [if_pos h0] at hres
            obtain ⟨lx, hlx⟩ : ∃ lx, (allD i n D)[t]? = some lx := ⟨_, List.getElem?_eq_getElem (by rw [allD_length HDr.out.1]; exact htl)⟩
            rw [getD_of hlx] at hres
            obtain ⟨A2, c2, hc2, hrb2, hcap2⟩ := Hr9.out.row hlx
            have k2 : wr.cell? ⟨bx, ox + t, none⟩ = some (.slice A2 lx.length c2) := (hrel.out.bel.cell (p := ⟨bx, ox + t, none⟩) HRl.out.2.1).trans hc2
            have HSt : Hid (OwnV (wr.alloc (.cells #[.slice A2 lx.length c2] 41)) w9.heap.size 41 u22 rws ∧ w9.heap.size ≤ wr.heap.size ∧ ∀ v' w', OwnV w' w9.heap.size 41 v' (rws ++ [.slice A2 lx.length c2]) → (wr.alloc (.cells #[.slice A2 lx.length c2] 41)).grownBy w' u22.ownBlock → ListX w9 v' (rws ++ [.slice A2 lx.length c2]) ((rebL i S).take (t + 1)) w') := by
              rw [List.take_add_one, hres]
              exact ⟨(hrel.out.alloc _).head, hrel.out.bel.size, fun v' w' q1 q2 => (hrel.out.alloc _).push (.inr ⟨A2, c2, rfl, (hrb2.below hrel.out.bel).alloc hrel.out.bel.size _, hcap2⟩) q1 q2⟩
            generalize lx.length = ln at *
            clear hrel htl hl hbw hc hrb hres h0 hlx hc2 hrb2 hcap2
            go_wp2_with (at_builtin; go_must (refine app_one rfl (.tmp 151) (.tmp 156) 22 41 rfl Try.underlying22 (.slice none 0 0) 24 info_row rfl w9.heap.size _ rws rfl HSt.out.1 ⟨wr.heap.size, 0, none⟩ 1 _ rfl (cell_new _ _ _) rfl (by omega) (by omega) (by have := HSt.out.2.1; simp; omega) ?_); intro v10 W10 hown9 hg9 _; have Hn9 := Lib.hid (HSt.out.2.2 v10 W10 hown9 hg9); clear hown9 hg9)
            go_roundw
            case rel => exact ⟨v10, t + 1, _, rfl, by go_num, by omega, Hn9.out⟩
            case measure => simp [intOf]; omega
          · rw [if_neg h0] at hres
            have h1 : (0 : Int) < (l.length : Int) := by omega
            have kl : (wr.alloc (.cells #[] 5)).cell? ⟨bS, oS + t, none⟩ = some (.slice A' l.length c') := (World.cell?_alloc_lt wr _ ⟨bS, oS + t, none⟩ (Nat.lt_of_lt_of_le Hsrc.out.2.2.2.2.2 hbw.size)).trans k1
            have Hrb : Hid (RB wr wr.heap.size A' l ∧ l.length ≤ 4000) := ⟨(hrb.below hbw).wide hbw.size, Hl.out t l hl⟩
            have HSt : Hid (∀ rv w1', Own w1' wr.heap.size rv l → Below wr.heap.size wr w1' → OwnV (w1'.alloc (.cells #[rv] 41)) w9.heap.size 41 u22 rws ∧ w9.heap.size ≤ w1'.heap.size ∧
                ∀ v' w', OwnV w' w9.heap.size 41 v' (rws ++ [rv]) → (w1'.alloc (.cells #[rv] 41)).grownBy w' u22.ownBlock → ListX w9 v' (rws ++ [rv]) ((rebL i S).take (t + 1)) w') := fun rv w1' ho hb => by
              have hb1 : Below wr.heap.size wr (w1'.alloc (.cells #[rv] 41)) := hb.alloc hb.size _
              have h1 := hrel.out.below hb1
              have ho' : Own (w1'.alloc (.cells #[rv] 41)) w9.heap.size rv l := (ho.wide hrel.out.bel.size).move fun g hg => Below.heap_alloc _ _ _ (ho.lt g hg).2
              rw [List.take_add_one, hres]
              exact ⟨h1.head, Nat.le_trans hrel.out.bel.size hb.size, fun v' w' q1 q2 => h1.push (.inl ho') q1 q2⟩
            clear hrel htl hl hbw hc hrb hres h0
            go_wp2_with (first
              | (at_builtin; (refine app_bytes rfl (.tmp 143) (.tmp 147) rfl wr.heap.size _ [] rfl (Own.made wr _ (Nat.le_refl _)) _ A' l.length c' l rfl rfl (Hrb.out.1.alloc (Nat.le_refl _) _) (by have := Hrb.out.2; simp; omega) (by simp) ?_); intro rv w10 hown hbel _; obtain ⟨A10, c10, rfl, _⟩ := hown.rb; obtain ⟨r1, r2, r3⟩ := HSt.out _ w10 (by simpa using hown) (((Below.refl _ _).alloc (Nat.le_refl _) _).trans hbel); have Hr1 := Lib.hid r1; have Hr2 := Lib.hid r2; have Hr3 := Lib.hid r3; clear r1 r2 r3 hown hbel HSt kl)
              | (at_builtin; go_must (refine app_one rfl (.tmp 142) (.tmp 149) 22 41 rfl Try.underlying22 (.slice none 0 0) 24 info_row rfl w9.heap.size _ rws rfl Hr1.out ⟨w10.heap.size, 0, none⟩ 1 _ rfl (cell_new _ _ _) rfl (by omega) (by omega) (by have := Hr2.out; simp; omega) ?_); intro v10 W10 hown9 hg9 _; have Hn9 := Lib.hid (Hr3.out v10 W10 hown9 hg9); clear hown9 hg9))
            go_roundw
            case rel => exact ⟨v10, t + 1, _, rfl, by go_num, by omega, Hn9.out⟩
            case measure => simp [intOf]; omega
        · obtain rfl : t = i + 2 := by omega
          have hrt : (rebL i S).take (i + 2) = rebL i S := List.take_of_length_le (by rw [HRl.out.1]; exact Nat.le_refl _)
          rw [hrt] at hrel
          obtain ⟨A10, c10, e10, r10⟩ := hrel.out.rm
          have Hd : Hid (u22 = .slice A10 (rebL i S).length c10 ∧ RM wr wr.heap.size A10 (rebL i S) ∧ Below w.heap.size w wr) := ⟨e10, r10, HRl.out.2.2.1.trans (hrel.out.bel.mono HRl.out.2.2.1.size)⟩
          clear hrel htl hrt e10 r10
          go_wp2_with fail
          go_ret2
          refine ⟨A10, c10, ?_, Hd.out.2⟩
          rw [HX.out.2.2.2.2.2.2.2.2, ← Hd.out.1]
          rfl
end Go.Proofs.Ytonihcgjepfpkaa

/-
  RsCodes, walked.
-/
namespace Go.Proofs.Ytonihcgjepfpkaa
open Go.RowKit

set_option maxRecDepth 20000
set_option maxHeartbeats 8000000 in
theorem rsCodes_any (A : Option Addr) (c N : Nat) (S : Mtx) (kk : Int) (w : World) (h : RM w w.heap.size A S) (hN : N = S.length) (hNc : N ≤ c) (hl : S.length ≤ 1048576) (hr : ∀ (t : Nat) (l : List UInt8), S[t]? = some l → l.length ≤ 1048576) :
    Calls Try.prog 3 #[.int .i64 kk, .slice A N c] w fun e w' => e = .returned (.bool true) ∧ Below w.heap.size w w' := by
  have Hk := Lib.hid (known6_any w)
  have HFa : Hid (∀ W, Below w.heap.size w W → Calls Try.prog 9 #[.slice A N c] W fun e w' => e = .returned (.bool (fewS S)) ∧ W = w') := fun W hW => by rw [hN]; exact few6_any A c S W _ (h.below hW) hl hr
  have Ha := Lib.hid h
  have HN : Hid (N = S.length ∧ N ≤ c) := ⟨hN, hNc⟩
  clear h hN hNc hl hr
  go_enter Try.func3, Try.ntmps3
  go_wp2_with fail
  refine Hk.out.mono ?_
  rintro e w1 ⟨rfl, hb1⟩
  have Hb1 := Lib.hid hb1
  have HFa1 := Lib.hid (HFa.out w1 hb1)
  clear hb1 Hk HFa
  go_wp2_with fail
  rcases hfa : fewS S with _ | _
  · rw [hfa] at HFa1
    refine HFa1.out.mono ?_
    rintro e w2 ⟨rfl, rfl⟩
    go_wp2_with fail
    go_ret
    exact ⟨rfl, Hb1.out⟩
  rw [hfa] at HFa1
  obtain ⟨fa1, fa2⟩ := few_facts hfa
  have Hl : Hid (N ≤ 40 ∧ ∀ (t : Nat) (l : List UInt8), S[t]? = some l → l.length ≤ 4000) := ⟨by rw [HN.out.1]; exact fa1, fun t l hl => by have := sumS_le hl; omega⟩
  clear fa1 fa2 hfa
  refine HFa1.out.mono ?_
  rintro e w2 ⟨rfl, rfl⟩
  clear HFa1
  by_cases hbad : kk < 1 ∨ 32 < kk
  · have HNw := Lib.hid (new_no kk w1 hbad)
    have HRn := Lib.hid (rnew6_any kk w1)
    rw [if_pos hbad] at HRn
    clear hbad
    go_wp2_with fail
    refine HNw.out.mono ?_
    rintro e w3 ⟨rfl, rfl⟩
    go_wp2_with fail
    refine HRn.out.mono ?_
    rintro e w4 ⟨rfl, rfl⟩
    go_wp2_with fail
    go_ret
    exact ⟨rfl, Hb1.out⟩
  obtain ⟨k, rfl⟩ : ∃ k : Nat, kk = (k : Int) := ⟨kk.toNat, by omega⟩
  have hk1 : 1 ≤ k := by omega
  have hk2 : k ≤ 32 := by omega
  obtain ⟨w3, hw3⟩ : ∃ w3, w3 = w1.alloc (.cells #[.int .i64 (k : Int)] 47) := ⟨_, rfl⟩
  have HNw : Hid (Calls Try.prog 10 #[.int .i64 (k : Int)] w1 fun e w' => e = .returned (.tuple #[.pointer (some ⟨w1.heap.size, 0, none⟩), .int .i64 0]) ∧ w' = w3) := by rw [hw3]; exact new_yes k w1 hk1 hk2
  have HRn := Lib.hid (rnew6_any (k : Int) w3)
  rw [if_neg hbad] at HRn
  have H3 : Hid (Below w.heap.size w w3 ∧ w3.cell? ⟨w1.heap.size, 0, none⟩ = some (.int .i64 (k : Int)) ∧ w1.heap.size < w3.heap.size) := by
    have hc3 : w3.cell? ⟨w1.heap.size, 0, none⟩ = some (.int .i64 (k : Int)) := by rw [hw3]; exact cell_new _ _ _
    refine ⟨?_, hc3, World.block_lt_of_cell? _ _ hc3⟩
    rw [hw3]
    exact Hb1.out.alloc Hb1.out.size _
  obtain ⟨bc, hbc⟩ : ∃ bc, bc = w1.heap.size := ⟨_, rfl⟩
  rw [← hbc] at HNw H3
  have HS : Hid (∀ W, Below w3.heap.size w3 W → RM W W.heap.size A S ∧ W.cell? ⟨bc, 0, none⟩ = some (.int .i64 (k : Int))) := fun W hW => by
    have hb := H3.out.1.trans (hW.mono H3.out.1.size)
    exact ⟨(Ha.out.below hb).wide hb.size, (hW.cell (p := ⟨bc, 0, none⟩) H3.out.2.2).trans H3.out.2.1⟩
  have hr1 : ∀ (t : Nat) (l : List UInt8), S[t]? = some l → l.length ≤ 1048576 := fun t l hl => Nat.le_trans (Hl.out.2 t l hl) (by omega)
  have hN255 : N ≤ 255 := by have := Hl.out.1; omega
  have HP : Hid (∀ W, Below w3.heap.size w3 W → Calls Try.prog 12 #[.pointer (some ⟨bc, 0, none⟩), .slice A N c] W fun e w' => ∃ A8 c8, e = .returned (.tuple #[.slice A8 (parL k S).length c8, .int .i64 (parE k S)]) ∧ RM w' w'.heap.size A8 (parL k S) ∧ Below W.heap.size W w') := fun W hW =>
    (parity_any bc k N c A S W (HS.out W hW).2 (HS.out W hW).1 HN.out.1 hN255 hk1 (by omega) hr1).mono fun e w' hx => by
      obtain ⟨A8, c8, g1, g2, _, g3⟩ := hx.rm
      exact ⟨A8, c8, g1, g2, g3⟩
  have HRP : Hid (∀ W, Below w3.heap.size w3 W → Calls Try.prog 13 #[.int .i64 (k : Int), .slice A N c] W fun e w' => ∃ A8 c8, e = .returned (.tuple #[.slice A8 (parL k S).length c8, .int .i64 (parE k S)]) ∧ RM w' w'.heap.size A8 (parL k S) ∧ Below W.heap.size W w') := fun W hW =>
    rpar_any k N c A S W (HS.out W hW).1 HN.out.1 Hl.out.1 hk1 hk2 hr1
  have HK : Hid (∀ W, Below w3.heap.size w3 W → Calls Try.prog 14 #[.pointer (some ⟨bc, 0, none⟩)] W fun e w' => e = .returned (.int .i64 (k : Int)) ∧ w' = W) := fun W hW => k_any bc k W (HS.out W hW).2
  have HR : Hid (∀ W, Below w3.heap.size w3 W → Calls Try.prog 16 #[.pointer (some ⟨bc, 0, none⟩), .slice A N c] W fun e w' => ∃ A8 c8, e = .returned (.tuple #[.slice A8 (rebL k S).length c8, .int .i64 (rebE k S)]) ∧ RM w' w'.heap.size A8 (rebL k S) ∧ Below W.heap.size W w') := fun W hW =>
    (rebuild_any bc k N c A S W (HS.out W hW).2 (HS.out W hW).1 HN.out.1 hN255 hk1 (by omega) hr1).mono fun e w' hx => by
      obtain ⟨A8, c8, g1, g2, _, g3⟩ := hx.rm
      exact ⟨A8, c8, g1, g2, g3⟩
  have HRR : Hid (∀ W, Below w3.heap.size w3 W → Calls Try.prog 17 #[.int .i64 (k : Int), .slice A N c] W fun e w' => ∃ A8 c8, e = .returned (.tuple #[.slice A8 (rebL k S).length c8, .int .i64 (rebE k S)]) ∧ RM w' w'.heap.size A8 (rebL k S) ∧ Below W.heap.size W w') := fun W hW =>
    rreb_any k N c A S W (HS.out W hW).1 HN.out.1 Hl.out.1 hk1 hk2 Hl.out.2
  have HC : Hid (∀ W, Below w3.heap.size w3 W → Calls Try.prog 18 #[.pointer (some ⟨bc, 0, none⟩), .slice A N c] W fun e w' => e = .returned (.tuple #[.bool (chkA k S), .int .i64 (chkE k S)]) ∧ Below W.heap.size W w') := fun W hW =>
    check_any bc k N c A S W (HS.out W hW).2 (HS.out W hW).1 HN.out.1 HN.out.2 hN255 hk1 (by omega) hr1
  have HRC : Hid (∀ W, Below w3.heap.size w3 W → Calls Try.prog 19 #[.int .i64 (k : Int), .slice A N c] W fun e w' => e = .returned (.tuple #[.bool (chkA k S), .int .i64 (chkE k S)]) ∧ Below W.heap.size W w') := fun W hW =>
    rcheck_any k N c A S W (HS.out W hW).1 HN.out.1 HN.out.2 Hl.out.1 hk1 hk2 hr1
  have HpL : Hid ((parL k S).length ≤ 1048576 ∧ (rebL k S).length ≤ 1048576) := by
    constructor
    · unfold parL
      split
      · show 2 ≤ _
        omega
      · exact Nat.zero_le _
    · unfold rebL
      split
      · rw [setK_length]
        have := Hl.out.1
        have := HN.out.1
        omega
      · exact Nat.zero_le _
  have HSm : Hid (∀ (A8 A9 : Option Addr) (c8 c9 : Nat) (M : Mtx) (W : World), RM W W.heap.size A8 M → RM W W.heap.size A9 M → M.length ≤ 1048576 → Calls Try.prog 15 #[.slice A8 M.length c8, .slice A9 M.length c9] W fun e w' => e = .returned (.bool true) ∧ ∃ q, w' = W.drewN q) := fun A8 A9 c8 c9 M W h1 h2 hm => by
    have := same_any A8 A9 c8 c9 M M W _ h1 h2 hm
    rw [decide_eq_true rfl] at this
    exact this
  have HBw : Hid (∀ W, Below w3.heap.size w3 W → Below w.heap.size w W) := fun W hW => H3.out.1.trans (hW.mono H3.out.1.size)
  generalize parL k S = pL at *
  generalize parE k S = pE at *
  generalize rebL k S = rL at *
  generalize rebE k S = rE at *
  generalize chkA k S = cA at *
  generalize chkE k S = cE at *
  clear hw3 hbc hk1 hk2 hr1 hN255 hbad HS Ha Hl HN H3
  go_wp2_with fail
  refine HNw.out.mono ?_
  rintro e w' ⟨rfl, rfl⟩
  obtain ⟨w3, rfl⟩ : ∃ w3 : World, w3 = w' := ⟨_, rfl⟩
  go_wp2_with fail
  refine HRn.out.mono ?_
  rintro e w4 ⟨rfl, rfl⟩
  obtain ⟨w3, rfl⟩ : ∃ w3 : World, w3 = w4 := ⟨_, rfl⟩
  clear HNw HRn
  go_wp2_with fail
  refine (HP.out w3 (Below.refl _ _)).mono ?_
  rintro e w5 ⟨A5, c5, rfl, r5, b5⟩
  have H5 : Hid (RM w5 w5.heap.size A5 pL ∧ Below w3.heap.size w3 w5) := ⟨r5, b5⟩
  clear r5 b5 HP
  go_wp2_with fail
  refine (HRP.out w5 H5.out.2).mono ?_
  rintro e w6 ⟨A6, c6, rfl, r6, b6⟩
  have H6 : Hid (RM w6 w6.heap.size A5 pL ∧ RM w6 w6.heap.size A6 pL ∧ Below w3.heap.size w3 w6) := ⟨(H5.out.1.below b6).wide b6.size, r6, H5.out.2.trans (b6.mono H5.out.2.size)⟩
  clear r6 b6 HRP H5
  have hpe : (pE != pE) = false := by simp
  have hkk : ((k : Int) != (k : Int)) = false := by simp
  go_wp2_with fail
  refine (HK.out w6 H6.out.2.2).mono ?_
  rintro e w7 ⟨rfl, rfl⟩
  obtain ⟨w6, rfl⟩ : ∃ w6 : World, w6 = w7 := ⟨_, rfl⟩
  go_wp2_with fail
  refine (HSm.out A5 A6 c5 c6 pL w6 H6.out.1 H6.out.2.1 HpL.out.1).mono ?_
  rintro e w8 ⟨rfl, q8, hw8⟩
  have H8 : Hid (Below w3.heap.size w3 w8) := by rw [hw8]; exact drewN_below H6.out.2.2 q8
  clear hw8 H6 HK
  go_wp2_with fail
  refine (HR.out w8 H8.out).mono ?_
  rintro e w9 ⟨A9, c9, rfl, r9, b9⟩
  have H9 : Hid (RM w9 w9.heap.size A9 rL ∧ Below w3.heap.size w3 w9) := ⟨r9, H8.out.trans (b9.mono H8.out.size)⟩
  clear r9 b9 HR H8
  go_wp2_with fail
  refine (HRR.out w9 H9.out.2).mono ?_
  rintro e w10 ⟨A10, c10, rfl, r10, b10⟩
  have H10 : Hid (RM w10 w10.heap.size A9 rL ∧ RM w10 w10.heap.size A10 rL ∧ Below w3.heap.size w3 w10) := ⟨(H9.out.1.below b10).wide b10.size, r10, H9.out.2.trans (b10.mono H9.out.2.size)⟩
  clear r10 b10 HRR H9 hpe hkk
  have hre : (rE != rE) = false := by simp
  go_wp2_with fail
  refine (HSm.out A9 A10 c9 c10 rL w10 H10.out.1 H10.out.2.1 HpL.out.2).mono ?_
  rintro e w11 ⟨rfl, q11, hw11⟩
  have H11 : Hid (Below w3.heap.size w3 w11) := by rw [hw11]; exact drewN_below H10.out.2.2 q11
  clear hw11 H10
  go_wp2_with fail
  refine (HC.out w11 H11.out).mono ?_
  rintro e w12 ⟨rfl, b12⟩
  have H12 : Hid (Below w3.heap.size w3 w12) := H11.out.trans (b12.mono H11.out.size)
  clear b12 H11 HC
  go_wp2_with fail
  refine (HRC.out w12 H12.out).mono ?_
  rintro e w13 ⟨rfl, b13⟩
  have H13 : Hid (Below w.heap.size w w13) := HBw.out w13 (H12.out.trans (b13.mono H12.out.size))
  clear b13 H12 HRC
  have hce : (cE == cE) = true := by simp
  have hca : (cA == cA) = true := by simp
  go_wp2_with fail
  go_ret
  exact ⟨by first | rfl | simp, H13.out⟩
end Go.Proofs.Ytonihcgjepfpkaa

/-
  The program's Rebuild, its closure.
-/
import Derived.Test.YtonihcgjepfpkaaKRs8
namespace Go.Proofs.Ytonihcgjepfpkaa
open Go.RowKit

set_option maxRecDepth 20000
/-- the missing ones laid in -/
def setK (S : Mtx) (m : List Int) (R : Mtx) : Nat → Mtx
  | 0 => S
  | i + 1 => (setK S m R i).set (m.getD i 0).toNat (R.getD i [])
theorem setK_length (S : Mtx) (m : List Int) (R : Mtx) : ∀ i, (setK S m R i).length = S.length
  | 0 => rfl
  | i + 1 => by
    show ((setK S m R i).set _ _).length = _
    rw [List.length_set]; exact setK_length S m R i
/-- how long those are that are there -/
def lenS (S : Mtx) : Nat := (fitS 0 S).getD 0
def madeL (k : Nat) (S : Mtx) : Mtx := match invK k (pick (allM k) ((thereL S).take k)) k with
  | none => []
  | some V => remL k S ((thereL S).take k) (missL S) V.2 (lenS S)
/-- what Rebuild tells -/
def rebB (k : Nat) (S : Mtx) : Bool := fitB ((k : Int) + 2) S && decide ((missL S).length ≤ 2)
def rebL (k : Nat) (S : Mtx) : Mtx := if rebB k S then setK S (missL S) (madeL k S) (missL S).length else []
def rebE (k : Nat) (S : Mtx) : Int := if fitB ((k : Int) + 2) S then (if (missL S).length ≤ 2 then 0 else 7) else 1
theorem lens_of {k : Nat} {S : Mtx} (h : rebB k S = true) (hk : 1 ≤ k) : S.length = k + 2 ∧ (missL S).length ≤ 2 ∧ 1 ≤ lenS S ∧ (∀ (i : Nat) (l : List UInt8), S[i]? = some l → l.length = 0 ∨ l.length = lenS S) ∧ k ≤ (thereL S).length := by
  unfold rebB fitB at h
  rw [Bool.and_eq_true, Bool.and_eq_true, decide_eq_true_eq, decide_eq_true_eq] at h
  obtain ⟨⟨h1, h2⟩, h3⟩ := h
  obtain ⟨m, hm⟩ := Option.isSome_iff_exists.1 h2
  obtain ⟨_, f2, _, f4⟩ := fitS_some S 0 m hm
  have e : lenS S = m := by unfold lenS; rw [hm]; rfl
  have hp := part_length S S.length
  have hl : k ≤ (thereL S).length := by
    unfold missL at h3
    unfold thereL
    omega
  have hS : S.length = k + 2 := by omega
  obtain ⟨x, hx⟩ : ∃ x, (thereL S)[0]? = some x := ⟨_, List.getElem?_eq_getElem (by omega)⟩
  obtain ⟨n, rfl, hn, hn0⟩ := (mem_there S.length).1 (List.mem_of_getElem? hx)
  have hgn := f2 (S.getD n []) (by rw [getD_of (List.getElem?_eq_getElem hn)]; exact List.getElem_mem hn)
  exact ⟨hS, h3, by omega, fun i l hl' => by rw [e]; exact f2 l (List.mem_of_getElem? hl'), hl⟩
theorem setK_other {S : Mtx} {m : List Int} {R : Mtx} {j : Nat} : ∀ i, (∀ t, t < i → (m.getD t 0).toNat ≠ j) → (setK S m R i)[j]? = S[j]?
  | 0, _ => rfl
  | i + 1, h => by
    show ((setK S m R i).set _ _)[j]? = _
    rw [List.getElem?_set_ne (h i (by omega))]
    exact setK_other i fun t ht => h t (by omega)
theorem setK_at {S : Mtx} {m : List Int} {R : Mtx} {j t : Nat} (hj : j < S.length) (htj : (m.getD t 0).toNat = j) : ∀ i, t < i → (∀ s, s < i → s ≠ t → (m.getD s 0).toNat ≠ j) → (setK S m R i)[j]? = some (R.getD t [])
  | 0, h, _ => by omega
  | i + 1, h, hd => by
    show ((setK S m R i).set _ _)[j]? = _
    by_cases e : t = i
    · subst e
      rw [htj, List.getElem?_set_self (by rw [setK_length]; exact hj)]
    · rw [List.getElem?_set_ne (hd i (by omega) (fun q => e q.symm))]
      exact setK_at hj htj i (by omega) fun s hs => hd s (by omega)
/-- the second loop's relation: i of the made are laid -/
structure LaidAt (w w5 : World) (lo g N : Nat) (rows : List Value) (S : Mtx) (m : List Int) (R : Mtx) (i : Nat) (wr : World) : Prop where
  st : ∃ vs, AllAt w g N vs (setK S m R i) wr ∧ ∀ (j : Nat) (v : Value) (x : Nat), vs[j]? = some v → v.ownBlock = some x → x < lo ∨ ∃ t r, t < i ∧ rows[t]? = some r ∧ r.ownBlock = some x
  keep : Kept (fun b => b ≠ g) w5 wr
theorem LaidAt.start {w w4 w5 : World} {g N : Nat} {vs rows : List Value} {S R : Mtx} {m : List Int} (h : AllAt w g N vs S w4) (hb : Below w4.heap.size w4 w5) : LaidAt w w5 w4.heap.size g N rows S m R 0 w5 :=
  ⟨⟨vs, h.below hb, fun j v x hv hx => by
    obtain ⟨l, hl⟩ : ∃ l, S[j]? = some l := ⟨_, List.getElem?_eq_getElem (by rw [h.mlen, ← h.len]; exact (List.getElem?_eq_some_iff.1 hv).1)⟩
    exact .inl ((h.rows j v l hv hl).lt x hx).2⟩, Kept.refl _ _⟩
/-- the made: a matrix in blocks from lo on -/
structure MadeAt (w5 : World) (lo g : Nat) (rows : List Value) (R : Mtx) : Prop where
  len : rows.length = R.length
  own : ∀ (i : Nat) (r : Value) (l : List UInt8), rows[i]? = some r → R[i]? = some l → Own w5 lo r l
  apart : ∀ (i j : Nat) (ri rj : Value) (x : Nat), i ≠ j → rows[i]? = some ri → rows[j]? = some rj → ri.ownBlock = some x → rj.ownBlock ≠ some x
  head : ∃ cs, Cells w5 g 41 cs
theorem LaidAt.step {w w5 wr : World} {lo g N i mi : Nat} {rows : List Value} {S R : Mtx} {m : List Int} {r : Value} (h : LaidAt w w5 lo g N rows S m R i wr) (hR : MadeAt w5 lo g rows R) (hlo : w.heap.size ≤ lo) (hr : rows[i]? = some r) (hm : m[i]? = some (mi : Int)) (hmi : mi < N) :
    (∃ u, wr.cell? ⟨g, mi, none⟩ = some u) ∧ wr.frozen? ⟨g, mi, none⟩ = false ∧ LaidAt w w5 lo g N rows S m R (i + 1) (wr.setCell ⟨g, mi, none⟩ r) := by
  obtain ⟨vs, h1, h2⟩ := h.st
  obtain ⟨cs, hcs⟩ := hR.head
  obtain ⟨l, hl⟩ : ∃ l, R[i]? = some l := ⟨_, List.getElem?_eq_getElem (by rw [← hR.len]; exact (List.getElem?_eq_some_iff.1 hr).1)⟩
  have ho := hR.own i r l hr hl
  have hg := own_ne ho hcs
  have ho2 : Own wr w.heap.size r l := (ho.move fun x hx => h.keep.block x (ho.lt x hx).2 fun e => hg (by rw [← e]; exact hx)).wide hlo
  obtain ⟨p1, p2, p3⟩ := h1.put hmi ho2 hg (fun j u x hu hx hrx => by
    rcases h2 j u x hu hx with q | ⟨t, rt, ht, hrt, hrtx⟩
    · have := (ho.lt x hrx).1
      omega
    · exact hR.apart t i rt r x (by omega) hrt hr hrtx hrx)
  refine ⟨p1, p2, ⟨vs.set mi r, ?_, fun j v x hv hx => ?_⟩, h.keep.setCell (p := ⟨g, mi, none⟩) (fun e => e rfl) _⟩
  · show AllAt w g N _ ((setK S m R i).set (m.getD i 0).toNat (R.getD i [])) _
    rw [getD_of hl, show (m.getD i 0).toNat = mi by rw [List.getD_eq_getElem?_getD, hm]; rfl]
    exact p3
  · by_cases e : mi = j
    · subst e
      rw [List.getElem?_set_self (by rw [h1.len]; exact hmi)] at hv
      cases hv
      exact .inr ⟨i, r, by omega, hr, hx⟩
    · rw [List.getElem?_set_ne e] at hv
      rcases h2 j v x hv hx with q | ⟨t, rt, ht, q1, q2⟩
      · exact .inl q
      · exact .inr ⟨t, rt, by omega, q1, q2⟩
theorem madeL_length {k : Nat} {S : Mtx} (h : rebB k S = true) (hk1 : 1 ≤ k) (hk2 : k ≤ 253) : (madeL k S).length = (missL S).length := by
  obtain ⟨h1, h2, _⟩ := lens_of h hk1
  obtain ⟨V, hV⟩ := first_inv hk2 h1 h2
  unfold madeL remL
  rw [hV]
  show (if (missL S).length = 0 then [] else _).length = _
  split
  · simp; omega
  · unfold wayM
    rw [linM_length, timesM_length, pick_length]
theorem lin_length {r : List UInt8} {L : Mtx} {n : Nat} (hr : r.length ≤ L.length) (hL : ∀ (k : Nat) (l : List UInt8), L[k]? = some l → l.length = n) : (lin r L n).length = n := linK_length r L n hL _ hr
theorem first_dim {k : Nat} {S : Mtx} (h1 : S.length = k + 2) (h5 : k ≤ (thereL S).length) : Dim (pick (allM k) ((thereL S).take k)) k := ⟨by rw [pick_length, List.length_take]; omega, pick_dim fun x hx => by
    obtain ⟨n, rfl, hn, _⟩ := (mem_there S.length).1 (List.mem_of_mem_take hx)
    omega⟩
theorem first_len {k : Nat} {S : Mtx} (h4 : ∀ (i : Nat) (l : List UInt8), S[i]? = some l → l.length = 0 ∨ l.length = lenS S) : ∀ (t : Nat) (l : List UInt8), (pick S ((thereL S).take k))[t]? = some l → l.length = lenS S := fun t l hl => by
  unfold pick at hl
  rw [List.getElem?_map] at hl
  obtain ⟨x, hx, rfl⟩ := Option.map_eq_some_iff.1 hl
  obtain ⟨n, rfl, hn, hn0⟩ := (mem_there S.length).1 (List.mem_of_mem_take (List.mem_of_getElem? hx))
  rw [Int.toNat_natCast]
  have h9 := h4 n _ (List.getElem?_eq_getElem hn)
  rw [getD_of (List.getElem?_eq_getElem hn)] at hn0 ⊢
  omega
theorem made_row {k : Nat} {S : Mtx} (h : rebB k S = true) (hk1 : 1 ≤ k) (hk2 : k ≤ 253) {t : Nat} {l : List UInt8} (hl : (madeL k S)[t]? = some l) : l.length = lenS S := by
  obtain ⟨h1, h2, _, h4, h5⟩ := lens_of h hk1
  obtain ⟨V, hV⟩ := first_inv hk2 h1 h2
  have hd := first_dim h1 h5
  have hdV : Dim V.2 k := (invK_good hd k V (Nat.le_refl _) hV).d2
  unfold madeL remL at hl
  rw [hV] at hl
  change (if (missL S).length = 0 then [] else _)[t]? = some l at hl
  by_cases h0 : (missL S).length = 0
  · rw [if_pos h0] at hl; simp at hl
  · rw [if_neg h0] at hl
    unfold linM at hl
    rw [List.getElem?_map] at hl
    obtain ⟨r, hr, rfl⟩ := Option.map_eq_some_iff.1 hl
    have hrk : r.length = k := by
      unfold wayM at hr
      rw [timesM_row hr]
      exact hdV.2 0 _ (head_get (by rw [hdV.1]; omega))
    exact lin_length (by rw [hrk, pick_length, List.length_take]; omega) (first_len h4)
theorem reb_row {k : Nat} {S : Mtx} (h : rebB k S = true) (hk1 : 1 ≤ k) (hk2 : k ≤ 253) {j : Nat} {l : List UInt8} (hl : (setK S (missL S) (madeL k S) (missL S).length)[j]? = some l) : l.length = lenS S := by
  obtain ⟨h1, h2, _, h4, h5⟩ := lens_of h hk1
  have hj : j < S.length := by rw [← setK_length S (missL S) (madeL k S) (missL S).length]; exact (List.getElem?_eq_some_iff.1 hl).1
  have hnd : (missL S).Nodup := miss_nodup S S.length
  by_cases h0 : (S.getD j []).length = 0
  · obtain ⟨t, ht⟩ := List.getElem?_of_mem ((mem_miss (S := S) (x := (j : Int)) S.length).2 ⟨j, rfl, hj, h0⟩)
    have htl : t < (missL S).length := (List.getElem?_eq_some_iff.1 ht).1
    have e : ((missL S).getD t 0).toNat = j := by
      rw [List.getD_eq_getElem?_getD, show (missL S)[t]? = some (j : Int) from ht]; rfl
    have := setK_at (S := S) (m := missL S) (R := madeL k S) hj e (missL S).length htl (fun s hs hst q => by
      have e1 : (missL S)[s]? = some (missL S)[s] := List.getElem?_eq_getElem hs
      obtain ⟨n, hn, _⟩ := (mem_miss (S := S) S.length).1 (List.getElem_mem hs)
      rw [List.getD_eq_getElem?_getD, e1] at q
      have q2 : (missL S)[s].toNat = j := q
      have q3 : (missL S)[s] = (missL S)[t] := by
        have e2 := (List.getElem?_eq_some_iff.1 ht).2
        have e3 : (missL S)[t] = (j : Int) := e2
        rw [e3]
        have e4 : (missL S)[s] = (n : Int) := hn
        rw [e4] at q2 ⊢
        omega
      exact hst ((List.getElem_inj hnd).1 q3))
    rw [this] at hl
    cases hl
    exact made_row h hk1 hk2 (t := t) (by rw [getD_of (List.getElem?_eq_getElem (by rw [madeL_length h hk1 hk2]; exact htl))]; exact List.getElem?_eq_getElem _)
  · rw [setK_other _ (fun t ht q => by
      have e1 : (missL S)[t]? = some (missL S)[t] := List.getElem?_eq_getElem ht
      obtain ⟨n, hn, hn1, hn2⟩ := (mem_miss (S := S) S.length).1 (List.getElem_mem ht)
      rw [List.getD_eq_getElem?_getD, e1] at q
      have q2 : (missL S)[t].toNat = j := q
      have e4 : (missL S)[t] = (n : Int) := hn
      rw [e4] at q2
      have : n = j := by omega
      subst this
      exact h0 hn2)] at hl
    rw [getD_of hl] at h0
    have := h4 j l hl
    omega
set_option maxHeartbeats 4000000 in
theorem rebuild_body (c0 c1 bc k N c : Nat) (A : Option Addr) (S : Mtx) (w : World) (he : EnvAt c0 c1 bc k (.slice A N c) w) (h : RM w w.heap.size A S) (hN : N = S.length) (hN2 : N ≤ 255) (hk1 : 1 ≤ k) (hk2 : k ≤ 253) (hl : ∀ (k : Nat) (l : List UInt8), S[k]? = some l → l.length ≤ 1048576) :
    Calls Try.prog 28 #[.pointer (some ⟨c0, 0, none⟩), .pointer (some ⟨c1, 0, none⟩)] w (DoPost w (fun v w' => rebB k S = true ∧ ∃ g, v = .slice (some ⟨g, 0, none⟩) N N ∧ MatO w' w.heap.size w'.heap.size v (rebL k S)) (fun x => rebB k S = false ∧ x = rebE k S)) := by
  have Hb : Hid (N = S.length ∧ N ≤ 255 ∧ 1 ≤ k ∧ k ≤ 253) := ⟨hN, hN2, hk1, hk2⟩
  have Hh := Lib.hid h
  have He := Lib.hid he
  have Hl := Lib.hid hl
  have HF := Lib.hid (mustFit_any ((k : Int) + 2) A c N S w.drew _ (h.drewN 1) hN (by omega) hl)
  have HP := Lib.hid (parted_any A c N S w.drew (h.drewN 1) hN (by omega))
  have hk2' : (k : Int) ≤ 253 := by omega
  have hN2' : (N : Int) ≤ 255 := by omega
  obtain ⟨q1, q2, q3⟩ := he
  clear h hN hN2 hk1 hk2 hl
  go_enter Try.func28, Try.ntmps28
  go_wp2_with fail
  refine wp_region_still_tail 6 (by kernel_rfl) (by kernel_rfl) ?_
  simp only [List.take_succ_cons, List.take_zero, List.drop_succ_cons, List.drop_zero]
  repeat still_step
  try refine wpStill_nil ?_
  change wpList _ _ _ _ _ w.drew
  go_wp2_with fail
  rcases hf : fitB ((k : Int) + 2) S with _ | _
  · rw [hf] at HF
    refine HF.out.mono ?_
    rintro e w1 ⟨rfl, rfl⟩
    change bodyPost _ _ _ (Exit.panic _) _ _
    exact ⟨rfl, drewN_below (Below.refl _ _) 1, .inr ⟨1, ⟨by unfold rebB; rw [hf]; rfl, by unfold rebE; rw [hf]; rfl⟩, rfl⟩⟩
  rw [hf] at HF
  have HF2 : Hid (Calls Try.prog 22 #[.int .i64 ((k : Int) + 2), .slice A N c] w.drew fun e w' => e = .returned (.tuple #[]) ∧ w.drew = w') := HF.out
  have Hf := Lib.hid hf
  clear hf HF
  refine HF2.out.mono ?_
  rintro e w1 ⟨rfl, rfl⟩
  go_wp2_with fail
  refine HP.out.mono ?_
  rintro e w2 ⟨v2, v3, rfl, hp⟩
  obtain ⟨A2, cc2, A3, cc3, rfl, rfl, hc2, hc3, r2, r3⟩ := hp.shape
  have hb2 : Below w.heap.size w w2 := (drewN_below (Below.refl _ w) 1).trans hp.bel
  have hN3 := part_length S S.length
  have ht2 : (thereL S).length ≤ 255 := by have := Hb.out; unfold thereL; omega
  have hm2 : (missL S).length ≤ 255 := by have := Hb.out; unfold missL; omega
  by_cases hm : (missL S).length ≤ 2
  case neg =>
    have hgt : (2 : Int) < ((missL S).length : Int) := by omega
    have Hr : Hid (rebB k S = false ∧ (7 : Int) = rebE k S) := ⟨by unfold rebB; rw [decide_eq_false hm, Bool.and_false], by unfold rebE; rw [if_pos Hf.out, if_neg hm]⟩
    have Hb2 := Lib.hid hb2
    generalize (missL S).length = mn at *
    generalize (thereL S).length = tn at *
    clear hp r2 r3 hb2 hN3 hm HF2 HP
    go_wp2_with fail
    exact ⟨rfl, Hb2.out, .inr ⟨7, ⟨Hr.out.1, Hr.out.2⟩, rfl⟩⟩
  have hle : ((missL S).length : Int) ≤ 2 := by omega
  have hrB : rebB k S = true := by unfold rebB; rw [Hf.out, decide_eq_true hm]; rfl
  obtain ⟨s1, s2, s3, s4, s5⟩ := lens_of hrB Hb.out.2.2.1
  obtain ⟨V, hV⟩ := first_inv (by have := Hb.out; omega) s1 hm
  have HS : Hid (∀ W, Below w.heap.size w W → W.cell? ⟨c0, 0, none⟩ = some (.pointer (some ⟨bc, 0, none⟩)) ∧ W.cell? ⟨bc, 0, none⟩ = some (.int .i64 (k : Int)) ∧ W.cell? ⟨c1, 0, none⟩ = some (.slice A N c)) := fun W hb => ⟨(He.out.below hb).code, (He.out.below hb).num, (He.out.below hb).shards⟩
  have HR : Hid (rebB k S = true ∧ S.length = k + 2 ∧ (missL S).length ≤ 2 ∧ 1 ≤ lenS S ∧ lenS S ≤ 1048576 ∧ (∀ (i : Nat) (l : List UInt8), S[i]? = some l → l.length = 0 ∨ l.length = lenS S) ∧ k ≤ (thereL S).length) := ⟨hrB, s1, s2, s3, by
    obtain ⟨x, hx⟩ : ∃ x, (thereL S)[0]? = some x := ⟨_, List.getElem?_eq_getElem (by have := Hb.out; omega)⟩
    obtain ⟨n, rfl, hn, hn0⟩ := (mem_there S.length).1 (List.mem_of_getElem? hx)
    have e1 := s4 n _ (List.getElem?_eq_getElem hn)
    have e2 := Hl.out n _ (List.getElem?_eq_getElem hn)
    rw [getD_of (List.getElem?_eq_getElem hn)] at hn0
    omega, s4, s5⟩
  have HV := Lib.hid hV
  have Hp : Hid (RI w2 w2.heap.size A2 (thereL S) ∧ RI w2 w2.heap.size A3 (missL S) ∧ Below w.heap.size w w2 ∧ (thereL S).length ≤ cc2) := ⟨r2, r3, hb2, hc2⟩
  obtain ⟨z1, z2, z3⟩ := HS.out w2 hb2
  obtain ⟨cs, Hcs, hmk⟩ := make_lists N (by have := Hb.out; omega)
  have Hst : Hid (AllAt w w2.heap.size N (List.replicate N (.slice none 0 0)) (someK S (thereL S) 0) (w2.alloc (.cells cs 41)) ∧ Below w2.heap.size w2 (w2.alloc (.cells cs 41))) := ⟨by rw [someK_zero, ← Hb.out.1]; exact AllAt.start w w2 N hb2 Hcs.out, (Below.refl _ _).alloc (Nat.le_refl _) _⟩
  have HT : Hid (∀ t, t = (thereL S).length → True) := fun _ _ => trivial
  obtain ⟨tn, htn⟩ : ∃ tn, tn = (thereL S).length := ⟨_, rfl⟩
  obtain ⟨mn, hmn⟩ : ∃ mn, mn = (missL S).length := ⟨_, rfl⟩
  have Hn : Hid (tn = (thereL S).length ∧ mn = (missL S).length ∧ tn ≤ 255 ∧ mn ≤ 2) := ⟨htn, hmn, by omega, by omega⟩
  have hktn : (k : Int) ≤ (cc2 : Int) := by omega
  have htn' : (tn : Int) ≤ 255 := by omega
  rw [← hmn] at hle hc3 ⊢
  rw [← htn] at hc2 ⊢
  clear hp r2 r3 hb2 hN3 hm HF2 HP s1 s2 s3 s4 s5 hrB hV Hcs ht2 hm2 htn hmn HT
  go_wp2_with fail
  obtain ⟨g, hg⟩ : ∃ g, g = w2.heap.size := ⟨_, rfl⟩
  have HG := Lib.hid hg
  rw [← hg] at Hst ⊢
  clear hg hmk z1 z2 z3
  go_loopw [7, 31] (fun _ iv wr => ∃ (i : Nat) (vs : List Value), iv = .int .i64 (i : Int) ∧ i ≤ tn ∧ Hid (AllAt w g N vs (someK S (thereL S) i) wr ∧ Below g w2 wr)) (fun _ iv _ => tn - (intOf iv).toNat)
  case atStart => exact ⟨0, _, rfl, Nat.zero_le _, Hst.out⟩
  case round =>
    obtain ⟨i, vs, rfl, hi, hrel⟩ := hrel
    by_cases hlt : i < tn
    · have hlt' : (i : Int) < (tn : Int) := by omega
      obtain ⟨x, hx⟩ : ∃ x, (thereL S)[i]? = some x := ⟨_, List.getElem?_eq_getElem (by have := Hn.out; omega)⟩
      obtain ⟨xn, rfl, hxn, hx0⟩ := (mem_there S.length).1 (List.mem_of_getElem? hx)
      obtain ⟨y, hy⟩ : ∃ y, S[xn]? = some y := ⟨_, List.getElem?_eq_getElem hxn⟩
      obtain ⟨bs, os, A', c', rfl, hbs, hcell, hrb, _⟩ := Hh.out xn y hy
      obtain ⟨b2, o2, rfl, hb2⟩ := Hp.out.1.flat (by have := Hn.out; omega)
      have hbel := hrel.out.1.bel
      have hbw : Below w2.heap.size w2 wr := by rw [← HG.out]; exact hrel.out.2
      obtain ⟨z1, z2, z3⟩ := HS.out wr hbel
      have k1 : wr.cell? ⟨b2, o2 + i, none⟩ = some (.int .i64 (xn : Int)) := by
        obtain ⟨ad, e, _, hcx⟩ := Hp.out.1 i _ hx
        cases e
        rw [add_flat] at hcx
        exact (hbw.cell (p := ⟨b2, o2 + i, none⟩) hb2).trans hcx
      have k2 : wr.cell? ⟨bs, os + xn, none⟩ = some (.slice A' y.length c') := (hbel.cell (p := ⟨bs, os + xn, none⟩) hbs).trans hcell
      have hxN : (xn : Int) < (N : Int) := by have := Hb.out; omega
      have HC : Hid (Calls Try.prog 30 #[.slice A' y.length c'] wr fun e w1 => ∃ A9 c9, e = .returned (.slice A9 y.length c9) ∧ Own w1 wr.heap.size (.slice A9 y.length c9) y ∧ Below wr.heap.size wr w1) :=
        (clone_any A' c' y wr _ ((hrb.below hbel).wide hbel.size) (Nat.le_refl _) (by have := Hl.out xn y hy; omega)).mono fun e w1 ⟨v, he, ho, hb⟩ => by
          obtain ⟨A9, c9, rfl, _⟩ := ho.rb
          exact ⟨A9, c9, he, ho, hb⟩
      have HN : Hid (∀ v w1, Own w1 wr.heap.size v y → Below wr.heap.size wr w1 → (∃ u, w1.cell? ⟨g, xn, none⟩ = some u) ∧ w1.frozen? ⟨g, xn, none⟩ = false ∧ AllAt w g N (vs.set xn v) (someK S (thereL S) (i + 1)) (w1.setCell ⟨g, xn, none⟩ v) ∧ Below g w2 (w1.setCell ⟨g, xn, none⟩ v)) := fun v w1 ho hb => by
        have h1 := hrel.out.1.below hb
        obtain ⟨p1, p2, p3⟩ := h1.put (i := xn) (by omega) (ho.wide hbel.size) (own_ne ho h1.head) (fun j u x hu hux hvx => by
          obtain ⟨l', hl'⟩ : ∃ l', (someK S (thereL S) i)[j]? = some l' := ⟨_, List.getElem?_eq_getElem (by rw [hrel.out.1.mlen, ← hrel.out.1.len]; exact (List.getElem?_eq_some_iff.1 hu).1)⟩
          have a1 := ((hrel.out.1.rows j u l' hu hl').lt x hux).2
          have a2 := (ho.lt x hvx).1
          omega)
        rw [someK_step hx hy] at p3
        exact ⟨p1, p2, p3, (hrel.out.2.trans (hb.mono (by rw [HG.out]; exact hbw.size))).setCell (p := ⟨g, xn, none⟩) (Nat.le_refl _) _⟩
      have hlt2 : i < tn := hlt
      generalize y.length = yl at *
      clear hx hxn hx0 hy hbs hcell hrb hb2 hbel hbw hrel hlt
      go_wp2_with fail
      refine HC.out.mono ?_
      rintro e w1 ⟨A9, c9, rfl, ho, hb1⟩
      obtain ⟨⟨u, p1⟩, p2, p3⟩ := HN.out _ w1 ho hb1
      have HN2 := Lib.hid p3
      clear ho hb1 p3 HN HC
      go_wp2_with fail
      go_roundw
      case rel => exact ⟨i + 1, _, by go_num, by omega, HN2.out⟩
      case measure => simp [intOf]; omega
    · obtain rfl : i = tn := by omega
      have hall : AllAt w g N vs S wr := by
        have := hrel.out.1
        rw [Hn.out.1, someK_done] at this
        exact this
      have hbw : Below w2.heap.size w2 wr := by rw [← HG.out]; exact hrel.out.2
      have hbel := hall.bel
      obtain ⟨z1, z2, z3⟩ := HS.out wr hbel
      have hmm : ∀ x ∈ missL S, 0 ≤ x ∧ x < (k : Int) + 2 := fun x hx => by
        obtain ⟨n, rfl, hn, _⟩ := (mem_miss S.length).1 hx
        have := HR.out.2.1
        omega
      have htm : ∀ x ∈ (thereL S).take k, 0 ≤ x ∧ x < (k : Int) + 2 := fun x hx => by
        obtain ⟨n, rfl, hn, _⟩ := (mem_there S.length).1 (List.mem_of_mem_take hx)
        have := HR.out.2.1
        omega
      have htn : ∀ x ∈ (thereL S).take k, (S.getD x.toNat []).length = lenS S := fun x hx => by
        obtain ⟨n, rfl, hn, hn0⟩ := (mem_there S.length).1 (List.mem_of_mem_take hx)
        rw [Int.toNat_natCast]
        have h9 := HR.out.2.2.2.2.2.1 n _ (List.getElem?_eq_getElem hn)
        rw [getD_of (List.getElem?_eq_getElem hn)] at hn0 ⊢
        omega
      have htl : ((thereL S).take k).length = k := by rw [List.length_take]; have := HR.out.2.2.2.2.2.2; omega
      have HM : Hid (Calls Try.prog 31 #[.pointer (some ⟨bc, 0, none⟩), .slice (some ⟨g, 0, none⟩) N N, .slice A2 k cc2, .slice A3 mn cc3] wr.drew (TellsL wr.drew (madeL k S))) := by
        have := remade_any bc k g 0 N N (lenS S) S A2 cc2 ((thereL S).take k) A3 cc3 mn (missL S) V wr.drew z2 (hall.rm.drewN 1) Hb.out.1 (by have := Hb.out; have := HR.out; omega) (fun j x hx => by
          rw [List.getElem?_take] at hx
          split at hx
          · exact ((Hp.out.1.below hbw).move (fun _ _ => rfl) hbw.size) j x hx
          · cases hx) htl ((Hp.out.2.1.below hbw).move (fun _ _ => rfl) hbw.size) Hn.out.2.1 Hn.out.2.2.2 Hb.out.2.2.1 Hb.out.2.2.2 htm hmm htn HR.out.2.2.2.1 HR.out.2.2.2.2.1 HV.out
        rw [show remL k S ((thereL S).take k) (missL S) V.2 (lenS S) = madeL k S by unfold madeL; rw [HV.out]] at this
        exact this
      have Hall : Hid (AllAt w g N vs S wr ∧ Below g w2 wr ∧ ∀ x ∈ missL S, 0 ≤ x ∧ x < (k : Int) + 2) := ⟨hall, hrel.out.2, hmm⟩
      clear hall hbw hbel z3 hmm htm htn htl hlt hrel
      go_wp2_with fail
      go_region_held3 (fun W => W.cell? ⟨c0, 0, none⟩ = some (.pointer (some ⟨bc, 0, none⟩)) ∧ W.cell? ⟨bc, 0, none⟩ = some (.int .i64 (k : Int))) (first | exact ⟨z1, z2⟩ | exact hS5)
        (first
          | (go_at_call 31; refine HM.out.mono ?_; rintro e w5 ⟨AR, cR, rfl, mR, bR⟩; have hb5 : Below w.heap.size w w5 := (drewN_below Hall.out.1.bel 1).trans (bR.mono Hall.out.1.bel.size); have hS5 : w5.cell? ⟨c0, 0, none⟩ = some (.pointer (some ⟨bc, 0, none⟩)) ∧ w5.cell? ⟨bc, 0, none⟩ = some (.int .i64 (k : Int)) := ⟨(HS.out w5 hb5).1, (HS.out w5 hb5).2.1⟩; have HmR : Hid (MatO w5 wr.heap.size w5.heap.size (.slice AR (madeL k S).length cR) (madeL k S) ∧ Below wr.heap.size wr w5) := ⟨mR, (drewN_below (Below.refl _ wr) 1).trans bR⟩; clear mR bR hb5))
      obtain ⟨rows, ra, _, rl, rd, re⟩ := HmR.out.1
      obtain ⟨A9, c9, e9, _, _, hrd⟩ := ra.rd
      have hgl : g < wr.heap.size := Hall.out.1.head.lt
      have hml : (madeL k S).length = mn := by
        unfold madeL remL
        rw [HV.out]
        show (if (missL S).length = 0 then [] else _).length = mn
        split
        · have := Hn.out; simp; omega
        · unfold wayM
          rw [linM_length, timesM_length, pick_length]; exact Hn.out.2.1.symm
      have eA : AR = A9 := (Value.slice.inj e9).1
      subst eA
      have Hmade : Hid (MadeAt w5 wr.heap.size g rows (madeL k S)) := ⟨rl, fun i r l hr hl => (rd i r l hr hl).2.1, re, ⟨_, (Hall.out.1.below HmR.out.2).head⟩⟩
      have Hrc : Hid (rows.length = mn ∧ w.heap.size ≤ wr.heap.size ∧ ∀ (i : Nat) (r : Value), rows[i]? = some r → ∃ b, AR = some ⟨b, 0, none⟩ ∧ b < w5.heap.size ∧ b ≠ g ∧ w5.cell? ⟨b, i, none⟩ = some r) := ⟨by rw [rl, hml], Hall.out.1.bel.size, fun i r hr => by
        obtain ⟨b, rfl, h1, h2⟩ := hrd i r hr
        have := (ra.ge b rfl).1
        exact ⟨b, rfl, h1, by omega, h2⟩⟩
      have Hst2 : Hid (LaidAt w w5 wr.heap.size g N rows S (missL S) (madeL k S) 0 w5) := LaidAt.start Hall.out.1 HmR.out.2
      have Hb5 : Hid (Below g w2 w5) := Hall.out.2.1.trans (HmR.out.2.mono (by omega))
      rw [hml]
      generalize wr.heap.size = lo at *
      clear ra rl rd re e9 hrd hgl hml hS5 z1 z2 HM HmR
      have hdec : decide ((2 : Int) < (mn : Int)) = false := by simp; omega
      go_wp2_with fail
      go_loopw [8, 9, 55] (fun _ _ iv wz => ∃ i : Nat, iv = .int .i64 (i : Int) ∧ i ≤ mn ∧ Hid (LaidAt w w5 lo g N rows S (missL S) (madeL k S) i wz)) (fun _ _ iv _ => mn - (intOf iv).toNat)
      case atStart => exact ⟨0, rfl, Nat.zero_le _, Hst2.out⟩
      case round =>
        obtain ⟨j, rfl, hj, hrel⟩ := hrel
        by_cases hlt : j < mn
        · have hlt' : (j : Int) < (mn : Int) := by omega
          obtain ⟨r, hr⟩ : ∃ r, rows[j]? = some r := ⟨_, List.getElem?_eq_getElem (by have := Hrc.out.1; omega)⟩
          obtain ⟨l, hl⟩ : ∃ l, (madeL k S)[j]? = some l := ⟨_, List.getElem?_eq_getElem (by rw [← Hmade.out.len]; have := Hrc.out.1; omega)⟩
          obtain ⟨Ar, cr, rfl, _, _, _⟩ := (Hmade.out.own j r l hr hl).rb
          obtain ⟨bR, rfl, hbR, hbg, hcR⟩ := Hrc.out.2.2 j _ hr
          obtain ⟨x, hx⟩ : ∃ x, (missL S)[j]? = some x := ⟨_, List.getElem?_eq_getElem (by have := Hn.out; omega)⟩
          have hxb := Hall.out.2.2 x (List.mem_of_getElem? hx)
          obtain ⟨xn, rfl⟩ : ∃ xn : Nat, x = (xn : Int) := ⟨x.toNat, by omega⟩
          have hxN : xn < N := by have := HR.out.2.1; have := Hb.out; omega
          obtain ⟨b3, o3, rfl, hb3⟩ := Hp.out.2.1.flat (by have := Hn.out; omega)
          have k1 : wr.cell? ⟨bR, j, none⟩ = some (.slice Ar l.length cr) := (World.cell?_of_block (w := w5) (hrel.out.keep.block bR hbR hbg)).trans hcR
          have k2 : wr.cell? ⟨b3, o3 + j, none⟩ = some (.int .i64 (xn : Int)) := by
            obtain ⟨ad, e, _, hcx⟩ := Hp.out.2.1 j _ hx
            cases e
            rw [add_flat] at hcx
            have h3 : b3 < g := by have := HG.out; omega
            have h4 := (Hb5.out.cell (p := ⟨b3, o3 + j, none⟩) h3).trans hcx
            have h5 := World.block_lt_of_cell? _ _ h4
            exact (World.cell?_of_block (w := w5) (hrel.out.keep.block b3 h5 (by omega))).trans h4
          obtain ⟨⟨u, p1⟩, p2, p3⟩ := hrel.out.step Hmade.out Hrc.out.2.1 hr hx hxN
          have Hnx := Lib.hid p3
          have hxN' : (xn : Int) < (N : Int) := by omega
          generalize l.length = ll at *
          clear hr hl hbR hbg hcR hx hxb hb3 p3 hrel hlt hxN
          go_wp2_with fail
          go_roundw
          case rel => exact ⟨j + 1, by go_num, by omega, Hnx.out⟩
          case measure => simp [intOf]; omega
        · obtain rfl : j = mn := by omega
          have Hd : Hid (MatO wr w.heap.size wr.heap.size (.slice (some ⟨g, 0, none⟩) N N) (rebL k S) ∧ Below w.heap.size w wr) := by
            obtain ⟨vs9, a9, _⟩ := hrel.out.st
            rw [Hn.out.2.1] at a9
            have e : rebL k S = setK S (missL S) (madeL k S) (missL S).length := by unfold rebL; rw [if_pos HR.out.1]
            rw [e]
            exact ⟨a9.done (by have := Hb.out; omega) fun t l ht => by rw [reb_row HR.out.1 Hb.out.2.2.1 Hb.out.2.2.2 ht]; exact HR.out.2.2.2.1, a9.bel⟩
          clear hlt hrel
          go_wp2_with fail
          go_ret
          exact ⟨Hd.out.2, .inl ⟨_, rfl, HR.out.1, g, rfl, Hd.out.1⟩⟩
end Go.Proofs.Ytonihcgjepfpkaa

/-
  The program's Rebuild, New, K; the laws' few, known.
-/
namespace Go.Proofs.Ytonihcgjepfpkaa
open Go.RowKit

set_option maxRecDepth 20000
set_option maxHeartbeats 1600000 in
theorem rebuild_any (bc k N c : Nat) (A : Option Addr) (S : Mtx) (w : World) (hc : w.cell? ⟨bc, 0, none⟩ = some (.int .i64 (k : Int))) (h : RM w w.heap.size A S) (hN : N = S.length) (hN2 : N ≤ 255) (hk1 : 1 ≤ k) (hk2 : k ≤ 253) (hl : ∀ (k : Nat) (l : List UInt8), S[k]? = some l → l.length ≤ 1048576) :
    Calls Try.prog 16 #[.pointer (some ⟨bc, 0, none⟩), .slice A N c] w (TellsO w (rebL k S) (rebE k S)) := by
  have hmf : ∀ (fn : Fn) (first cap : Array Value) (w : World), (Instr.makeFunc fn first cap).run Try.prog w = .ok (.func fn first cap) w := fun _ _ _ _ => rfl
  have hbel : Below w.heap.size w (((w.alloc (.cells #[.pointer (some ⟨bc, 0, none⟩)] 25)).alloc (.cells #[.slice A N c] 22)).alloc (.cells #[.int .i64 0] 26)) := (((Below.refl _ _).alloc (Nat.le_refl _) _).alloc (by simp) _).alloc (by simp; omega) _
  have HC := Lib.hid (caughtRebuild (.pointer (some ⟨w.heap.size, 0, none⟩), .pointer (some ⟨w.heap.size + 1, 0, none⟩)) _ _ _ (rebuild_body w.heap.size (w.heap.size + 1) bc k N c A S _ (env_new w bc k (.slice A N c) 25 22 hc) ((h.below hbel).wide hbel.size) hN hN2 hk1 hk2 hl))
  have Hb2 : Hid (Below w.heap.size w ((w.alloc (.cells #[.pointer (some ⟨bc, 0, none⟩)] 25)).alloc (.cells #[.slice A N c] 22))) := ((Below.refl _ _).alloc (Nat.le_refl _) _).alloc (by simp) _
  have HL : Hid (rebB k S = true → (rebL k S).length = N ∧ rebE k S = 0) := fun hb => by
    constructor
    · unfold rebL; rw [if_pos hb, setK_length, hN]
    · unfold rebB at hb
      rw [Bool.and_eq_true, decide_eq_true_eq] at hb
      unfold rebE
      rw [if_pos hb.1, if_pos hb.2]
  clear hc h hN hN2 hk1 hk2 hl hbel
  go_enter Try.func16, Try.ntmps16
  go_wp2_with fail
  refine HC.out.mono ?_
  rintro e w' ⟨hb, ⟨v, rfl, hp, g, rfl, hm⟩ | ⟨x, ⟨hp, hx⟩, rfl⟩⟩
  · have Hd : Hid (rebB k S = true ∧ MatO w' w.heap.size w'.heap.size (.slice (some ⟨g, 0, none⟩) N N) (rebL k S) ∧ Below w.heap.size w w') := ⟨hp, hm.wide (by simp; omega) (Nat.le_refl _), Hb2.out.trans (hb.mono Hb2.out.size)⟩
    clear hp hb hm HC
    go_wp2_with fail
    go_ret2
    obtain ⟨e1, e2⟩ := HL.out Hd.out.1
    exact ⟨some ⟨g, 0, none⟩, N, by rw [e1, e2]; rfl, by rw [e1]; exact Hd.out.2.1, Hd.out.2.2⟩
  · have Hd : Hid (rebB k S = false ∧ Below w.heap.size w w' ∧ x = rebE k S) := ⟨hp, Hb2.out.trans (hb.mono Hb2.out.size), hx⟩
    clear hp hb hx HC
    go_wp2_with fail
    go_ret2
    have e : rebL k S = [] := by unfold rebL; rw [Hd.out.1]; rfl
    rw [e]
    exact ⟨none, 0, by rw [Hd.out.2.2]; rfl, MatO.none _ _ _, Hd.out.2.1⟩
/-- New, K -/
theorem new_yes (k : Nat) (w : World) (h1 : 1 ≤ k) (h2 : k ≤ 32) :
    Calls Try.prog 10 #[.int .i64 (k : Int)] w fun e w' => e = .returned (.tuple #[.pointer (some ⟨w.heap.size, 0, none⟩), .int .i64 0]) ∧ w' = w.alloc (.cells #[.int .i64 (k : Int)] 47) := by
  have a1 : ¬ (k : Int) < 1 := by omega
  have a2 : ¬ (32 : Int) < (k : Int) := by omega
  have a3 : (1 : Int) ≤ (k : Int) := by omega
  have a4 : (k : Int) ≤ 32 := by omega
  clear h1 h2
  go_enter Try.func10, Try.ntmps10
  go_wp2_with fail
  go_ret2
  exact ⟨rfl, rfl⟩
theorem new_no (n : Int) (w : World) (h : n < 1 ∨ 32 < n) :
    Calls Try.prog 10 #[.int .i64 n] w fun e w' => e = .returned (.tuple #[.pointer none, .int .i64 1]) ∧ w' = w := by
  rcases h with h | h
  · go_enter Try.func10, Try.ntmps10
    go_wp2_with fail
    go_ret2
    exact ⟨rfl, rfl⟩
  · have a1 : ¬ n < 1 := by omega
    have a2 : decide (n < 1) = false := by simp; omega
    go_enter Try.func10, Try.ntmps10
    go_wp2_with fail
    go_ret2
    exact ⟨rfl, rfl⟩
theorem k_any (bc k : Nat) (w : World) (hc : w.cell? ⟨bc, 0, none⟩ = some (.int .i64 (k : Int))) :
    Calls Try.prog 14 #[.pointer (some ⟨bc, 0, none⟩)] w fun e w' => e = .returned (.int .i64 (k : Int)) ∧ w' = w := by
  go_enter Try.func14, Try.ntmps14
  go_wp2_with fail
  go_ret
  exact ⟨rfl, rfl⟩
/-- how many bytes there are -/
def sumS (S : Mtx) : Nat := (S.map fun l => l.length).sum
def fewS (S : Mtx) : Bool := decide (S.length ≤ 40) && decide (sumS S ≤ 4000)
theorem sumS_take (M : Mtx) (k : Nat) (l : List UInt8) (h : M[k]? = some l) : sumS (M.take (k + 1)) = sumS (M.take k) + l.length := by
  have hk := (List.getElem?_eq_some_iff.1 h).1
  have hx := (List.getElem?_eq_some_iff.1 h).2
  unfold sumS
  rw [List.take_succ_eq_append_getElem hk, hx]
  simp
theorem sumS_le {S : Mtx} {k : Nat} {l : List UInt8} (h : S[k]? = some l) : l.length ≤ sumS S := by
  have : l ∈ S := List.mem_of_getElem? h
  unfold sumS
  clear h
  induction S with
  | nil => cases this
  | cons a t ih =>
    simp only [List.map_cons, List.sum_cons]
    rcases List.mem_cons.1 this with rfl | h2
    · omega
    · have := ih h2
      omega
set_option maxHeartbeats 1000000 in
theorem few6_any (A : Option Addr) (c : Nat) (M : Mtx) (w : World) (B : Nat) (h : RM w B A M) (hl : M.length ≤ 1048576) (hll : ∀ (k : Nat) (l : List UInt8), M[k]? = some l → l.length ≤ 1048576) :
    Calls Try.prog 9 #[.slice A M.length c] w fun e w' => e = .returned (.bool (fewS M)) ∧ w = w' := by
  obtain ⟨N, hN⟩ : ∃ N, N = M.length := ⟨_, rfl⟩
  have Hh := Lib.hid h
  have HN := Lib.hid hN
  have Hll := Lib.hid hll
  have hNb : (N : Int) ≤ 1048576 := by omega
  rw [← hN]
  clear h hN hl hll
  have Hst : Hid (0 = sumS (M.take 0) ∧ True) := ⟨rfl, trivial⟩
  go_enter Try.func9, Try.ntmps9
  go_wp2_with fail
  go_loop [3, 4] (fun nv iv => ∃ k n : Nat, iv = .int .i64 (k : Int) ∧ nv = .int .i64 (n : Int) ∧ k ≤ N ∧ n ≤ k * 1048577 ∧ Hid (n = sumS (M.take k))) (fun _ iv => N - (intOf iv).toNat)
  case atStart => exact ⟨0, 0, rfl, rfl, Nat.zero_le _, Nat.zero_le _, Hst.out.1⟩
  case round =>
    obtain ⟨k, n, rfl, rfl, hk, hn, hrel⟩ := hrel
    by_cases hlt : k < N
    · obtain ⟨l, hx⟩ : ∃ l, M[k]? = some l := ⟨_, List.getElem?_eq_getElem (by rw [← HN.out]; exact hlt)⟩
      obtain ⟨b, o, A', c', rfl, hb, hc, _, _⟩ := Hh.out k l hx
      have hlb := Hll.out k l hx
      have Hs : Hid (n + l.length = sumS (M.take (k + 1))) := by show _ = _; rw [sumS_take M k l hx, ← hrel.out]
      have hk' : (k : Int) < (N : Int) := by omega
      generalize l.length = m at *
      have hm' : (m : Int) ≤ 1048576 := by omega
      have hn' : (n : Int) ≤ 1099512676352 := by omega
      clear hx hlt
      go_wp2_with fail
      go_round
      case rel => exact ⟨k + 1, n + m, by go_num, by go_num, by omega, by omega, Hs.out⟩
      case measure => simp [intOf]; omega
    · obtain rfl : k = N := by omega
      have e1 : n = sumS M := by rw [hrel.out, HN.out, List.take_length]
      by_cases h40 : k ≤ 40
      · have Hf : Hid (fewS M = decide ((n : Int) ≤ 4000)) := by
          show _ = _
          unfold fewS
          rw [← e1, decide_eq_true (by rw [← HN.out]; exact h40), Bool.true_and]
          by_cases hh : n ≤ 4000
          · rw [decide_eq_true hh, decide_eq_true (by omega)]
          · rw [decide_eq_false hh, decide_eq_false (by omega)]
        have h40' : (k : Int) ≤ 40 := by omega
        clear hlt e1 hrel
        go_wp2_with fail
        go_ret
        exact ⟨by rw [Hf.out]; rfl, rfl⟩
      · have Hf : Hid (fewS M = false) := by
          show _ = _
          unfold fewS
          rw [decide_eq_false (by rw [← HN.out]; exact h40)]; rfl
        have h40' : decide ((k : Int) ≤ 40) = false := by simp; omega
        clear hlt e1 hrel
        go_wp2_with fail
        go_ret
        exact ⟨by rw [Hf.out]; rfl, rfl⟩
theorem few_facts {S : Mtx} (h : fewS S = true) : S.length ≤ 40 ∧ sumS S ≤ 4000 := by
  unfold fewS at h
  rw [Bool.and_eq_true, decide_eq_true_eq, decide_eq_true_eq] at h
  exact h
/-- equally long, and so many -/
theorem par_yes {k n : Nat} {S : Mtx} (hS : S.length = k) (hn : 1 ≤ n) (h : ∀ (i : Nat) (l : List UInt8), S[i]? = some l → l.length = n) : parB k S = true := by
  have hf : (fitS 0 S).isSome = true := by
    rcases hq : fitS 0 S with _ | m
    · exact absurd (fun l hl => by
        obtain ⟨i, hi⟩ := List.getElem?_of_mem hl
        exact .inr (h i l hi)) (fitS_none S 0 hq n (.inl rfl))
    · rfl
  have hm : ∀ i, i ≤ S.length → missK S i = [] := fun i => by
    induction i with
    | zero => intro _; rfl
    | succ i ih =>
      intro hi
      have e := List.getElem?_eq_getElem (show i < S.length by omega)
      show (if (S.getD i []).length = 0 then missK S i ++ [(i : Int)] else missK S i) = []
      rw [if_neg (by rw [getD_of e, h i _ e]; omega)]
      exact ih (by omega)
  unfold parB fitB missL
  rw [decide_eq_true (by rw [hS]), hf, hm _ (Nat.le_refl _)]
  rfl
end Go.Proofs.Ytonihcgjepfpkaa

/-
  The laws' known.
-/
namespace Go.Proofs.Ytonihcgjepfpkaa
open Go.RowKit

set_option maxRecDepth 20000
theorem rm_new {w : World} {hs : Array Value} {S : Mtx} (h : RowsV w hs.toList S) : RM (w.alloc (.cells hs 41)) (w.alloc (.cells hs 41)).heap.size (some ⟨w.heap.size, 0, none⟩) S := fun i l hl => by
  obtain ⟨r, hr⟩ : ∃ r, hs.toList[i]? = some r := ⟨_, List.getElem?_eq_getElem (by rw [h.1]; exact (List.getElem?_eq_some_iff.1 hl).1)⟩
  obtain ⟨A', c', rfl, h1, h2⟩ := h.2 i r l hr hl
  have hb : Below w.heap.size w (w.alloc (.cells hs 41)) := (Below.refl _ _).alloc (Nat.le_refl _) _
  exact ⟨w.heap.size, 0, A', c', rfl, by simp, by rw [Nat.zero_add]; exact (Cells.new w hs 41).cell hr, (h1.below hb).wide hb.size, h2⟩
theorem rb_one (w : World) (x : UInt8) (v : Value) (hv : v = .int .u8 (x.toNat : Int)) : RB (w.alloc (.cells #[v] 5)) (w.alloc (.cells #[v] 5)).heap.size (some ⟨w.heap.size, 0, none⟩) [x] := by
  have := RB.new w #[v] 5 [x] (by rw [hv]; rfl)
  exact this.wide (by simp)
theorem par_known : parL 2 [[5], [6]] = [[3], [9]] ∧ parE 2 [[5], [6]] = 0 := by decide +kernel
theorem reb_known : rebL 2 [[], [], [], [9]] = [] ∧ rebE 2 [[], [], [], [9]] = 7 := by decide +kernel
theorem known_par (w : World) (bc : Nat) (hc : w.cell? ⟨bc, 0, none⟩ = some (.int .i64 2)) (W : World) (hW : W = ((w.alloc (.cells #[.int .u8 5] 5)).alloc (.cells #[.int .u8 6] 5)).alloc (.cells #[.slice (some ⟨w.heap.size, 0, none⟩) 1 1, .slice (some ⟨w.heap.size + 1, 0, none⟩) 1 1] 41)) :
    Calls Try.prog 12 #[.pointer (some ⟨bc, 0, none⟩), .slice (some ⟨w.heap.size + 1 + 1, 0, none⟩) 2 2] W (TellsO W [[3], [9]] 0) ∧ Below w.heap.size w W := by
  have hb : Below w.heap.size w W := by
    rw [hW]
    exact (((Below.refl _ _).alloc (Nat.le_refl _) _).alloc (by simp) _).alloc (by simp; omega) _
  have hr : RM W W.heap.size (some ⟨w.heap.size + 1 + 1, 0, none⟩) [[5], [6]] := by
    have h5 := rb_one w 5 (.int .u8 5) rfl
    have h6 := rb_one (w.alloc (.cells #[.int .u8 5] 5)) 6 (.int .u8 6) rfl
    have hb6 : Below (w.alloc (.cells #[.int .u8 5] 5)).heap.size (w.alloc (.cells #[.int .u8 5] 5)) ((w.alloc (.cells #[.int .u8 5] 5)).alloc (.cells #[.int .u8 6] 5)) := (Below.refl _ _).alloc (Nat.le_refl _) _
    have h5' := (h5.below hb6).wide hb6.size
    have := rm_new (w := (w.alloc (.cells #[.int .u8 5] 5)).alloc (.cells #[.int .u8 6] 5)) (hs := #[.slice (some ⟨w.heap.size, 0, none⟩) 1 1, .slice (some ⟨w.heap.size + 1, 0, none⟩) 1 1]) (S := [[5], [6]]) ⟨rfl, fun i r l hr hl => by
      match i with
      | 0 => cases hr; cases hl; exact ⟨_, 1, rfl, h5', Nat.le_refl _⟩
      | 1 => cases hr; cases hl; exact ⟨_, 1, rfl, (by simpa using h6), Nat.le_refl _⟩
      | i + 2 => simp at hl⟩
    rw [hW]
    simpa using this
  refine ⟨?_, hb⟩
  have := parity_any bc 2 2 2 (some ⟨w.heap.size + 1 + 1, 0, none⟩) [[5], [6]] W ((hb.cell (p := ⟨bc, 0, none⟩) (World.block_lt_of_cell? _ _ hc)).trans hc) hr rfl (by omega) (by omega) (by omega) (fun i l hl => by
    match i with
    | 0 => cases hl; simp
    | 1 => cases hl; simp
    | i + 2 => simp at hl)
  rw [par_known.1, par_known.2] at this
  exact this
theorem known_reb (w : World) (bc : Nat) (hc : w.cell? ⟨bc, 0, none⟩ = some (.int .i64 2)) (W : World) (hW : W = (w.alloc (.cells #[.int .u8 9] 5)).alloc (.cells #[.slice none 0 0, .slice none 0 0, .slice none 0 0, .slice (some ⟨w.heap.size, 0, none⟩) 1 1] 41)) :
    Calls Try.prog 16 #[.pointer (some ⟨bc, 0, none⟩), .slice (some ⟨w.heap.size + 1, 0, none⟩) 4 4] W (TellsO W [] 7) ∧ Below w.heap.size w W := by
  have hb : Below w.heap.size w W := by
    rw [hW]
    exact ((Below.refl _ _).alloc (Nat.le_refl _) _).alloc (by simp) _
  have hr : RM W W.heap.size (some ⟨w.heap.size + 1, 0, none⟩) [[], [], [], [9]] := by
    have h9 := rb_one w 9 (.int .u8 9) rfl
    have := rm_new (w := w.alloc (.cells #[.int .u8 9] 5)) (hs := #[.slice none 0 0, .slice none 0 0, .slice none 0 0, .slice (some ⟨w.heap.size, 0, none⟩) 1 1]) (S := [[], [], [], [9]]) ⟨rfl, fun i r l hr hl => by
      match i with
      | 0 => cases hr; cases hl; exact ⟨_, 0, rfl, RB.nil _ _ _, Nat.le_refl _⟩
      | 1 => cases hr; cases hl; exact ⟨_, 0, rfl, RB.nil _ _ _, Nat.le_refl _⟩
      | 2 => cases hr; cases hl; exact ⟨_, 0, rfl, RB.nil _ _ _, Nat.le_refl _⟩
      | 3 => cases hr; cases hl; exact ⟨_, 1, rfl, h9, Nat.le_refl _⟩
      | i + 4 => simp at hl⟩
    rw [hW]
    simpa using this
  refine ⟨?_, hb⟩
  have := rebuild_any bc 2 4 4 (some ⟨w.heap.size + 1, 0, none⟩) [[], [], [], [9]] W ((hb.cell (p := ⟨bc, 0, none⟩) (World.block_lt_of_cell? _ _ hc)).trans hc) hr rfl (by omega) (by omega) (by omega) (fun i l hl => by
    match i with
    | 0 => cases hl; simp
    | 1 => cases hl; simp
    | 2 => cases hl; simp
    | 3 => cases hl; simp
    | i + 4 => simp at hl)
  rw [reb_known.1, reb_known.2] at this
  exact this
set_option maxHeartbeats 1600000 in
theorem known6_any (w : World) : Calls Try.prog 8 #[] w fun e w' => e = .returned (.bool true) ∧ Below w.heap.size w w' := by
  have HN : Hid (Calls Try.prog 10 #[.int .i64 2] w fun e w' => e = .returned (.tuple #[.pointer (some ⟨w.heap.size, 0, none⟩), .int .i64 0]) ∧ w' = w.alloc (.cells #[.int .i64 2] 47)) := new_yes 2 w (by omega) (by omega)
  obtain ⟨w1, hw1⟩ : ∃ w1, w1 = w.alloc (.cells #[.int .i64 2] 47) := ⟨_, rfl⟩
  have Hb1 : Hid (Below w.heap.size w w1 ∧ w1.cell? ⟨w.heap.size, 0, none⟩ = some (.int .i64 2)) := by
    rw [hw1]
    exact ⟨(Below.refl _ _).alloc (Nat.le_refl _) _, cell_new _ _ _⟩
  rw [← hw1] at HN
  clear hw1
  go_enter Try.func8, Try.ntmps8
  go_wp2_with fail
  refine HN.out.mono ?_
  rintro e w' ⟨rfl, rfl⟩
  clear HN
  go_wp2_with fail
  obtain ⟨W4, hW4⟩ : ∃ W4, W4 = ((w'.alloc (.cells #[.int .u8 5] 5)).alloc (.cells #[.int .u8 6] 5)).alloc (.cells #[.slice (some ⟨w'.heap.size, 0, none⟩) 1 1, .slice (some ⟨w'.heap.size + 1, 0, none⟩) 1 1] 41) := ⟨_, rfl⟩
  obtain ⟨hp4, hb4⟩ := known_par w' w.heap.size Hb1.out.2 W4 hW4
  have HP4 := Lib.hid hp4
  have Hb4 : Hid (Below w.heap.size w W4) := Hb1.out.1.trans (hb4.mono Hb1.out.1.size)
  have Hc4 : Hid (W4.cell? ⟨w.heap.size, 0, none⟩ = some (.int .i64 2)) := (hb4.cell (p := ⟨w.heap.size, 0, none⟩) (World.block_lt_of_cell? _ _ Hb1.out.2)).trans Hb1.out.2
  rw [← hW4]
  clear hW4 hp4 hb4
  refine HP4.out.mono ?_
  rintro e w5 hx
  obtain ⟨A5, c5, rfl, r5, _, b5⟩ := hx.rm
  have Hb5 : Hid (Below w.heap.size w w5) := Hb4.out.trans (b5.mono Hb4.out.size)
  have Hc5 : Hid (w5.cell? ⟨w.heap.size, 0, none⟩ = some (.int .i64 2)) := (b5.cell (p := ⟨w.heap.size, 0, none⟩) (World.block_lt_of_cell? _ _ Hc4.out)).trans Hc4.out
  have H5 := Lib.hid r5
  clear hx r5 b5 HP4
  go_wp2_with fail
  obtain ⟨W6, hW6⟩ : ∃ W6, W6 = (w5.alloc (.cells #[.int .u8 9] 5)).alloc (.cells #[.slice none 0 0, .slice none 0 0, .slice none 0 0, .slice (some ⟨w5.heap.size, 0, none⟩) 1 1] 41) := ⟨_, rfl⟩
  obtain ⟨hp6, hb6⟩ := known_reb w5 w.heap.size Hc5.out W6 hW6
  rw [← hW6]
  refine hp6.mono ?_
  rintro e w7 hx
  obtain ⟨A7, c7, rfl, _, _, b7⟩ := hx.rm
  have Hb7 : Hid (Below w.heap.size w w7) := (Hb5.out.trans (hb6.mono Hb5.out.size)).trans (b7.mono (Nat.le_trans Hb5.out.size hb6.size))
  have hb57 : Below w5.heap.size w5 w7 := hb6.trans (b7.mono hb6.size)
  have r7 := (H5.out.below hb57).wide hb57.size
  obtain ⟨bp, op, rfl, _⟩ := r7.at_ (by simp)
  obtain ⟨A8, c8, k1, r8, _⟩ := r7.row (k := 0) (l := [3]) rfl
  obtain ⟨A9, c9, k2, r9, _⟩ := r7.row (k := 1) (l := [9]) rfl
  obtain ⟨b8, o8, rfl, _⟩ := r8.flat (by simp)
  obtain ⟨b9, o9, rfl, _⟩ := r9.flat (by simp)
  have k3 : w7.cell? ⟨b8, o8, none⟩ = some (.int .u8 3) := by
    obtain ⟨ad, e, _, hc⟩ := r8 0 3 rfl
    cases e
    exact hc
  have k4 : w7.cell? ⟨b9, o9, none⟩ = some (.int .u8 9) := by
    obtain ⟨ad, e, _, hc⟩ := r9 0 9 rfl
    cases e
    exact hc
  have HK : Hid (Calls Try.prog 14 #[.pointer (some ⟨w.heap.size, 0, none⟩)] w7 fun e w' => e = .returned (.int .i64 2) ∧ w' = w7) := k_any w.heap.size 2 w7 ((hb57.cell (p := ⟨w.heap.size, 0, none⟩) (World.block_lt_of_cell? _ _ Hc5.out)).trans Hc5.out)
  have k1' : w7.cell? ⟨bp, op, none⟩ = some (.slice (some ⟨b8, o8, none⟩) 1 c8) := k1
  clear hW6 hp6 hb6 hx b7 hb57 r7 r8 r9 H5 k1
  go_wp2_with fail
  refine HK.out.mono ?_
  rintro e w8 ⟨rfl, rfl⟩
  go_wp2_with fail
  go_ret
  exact ⟨rfl, Hb7.out⟩
end Go.Proofs.Ytonihcgjepfpkaa

/-
  Sums of multiplied lists, column by column.
-/
namespace Go.Proofs.Ytonihcgjepfpkaa
open Go.RowKit

set_option maxRecDepth 20000
/-- a column -/
def col (L : Mtx) (b : Nat) : List UInt8 := L.map fun l => l.getD b 0
theorem col_length (L : Mtx) (b : Nat) : (col L b).length = L.length := List.length_map _
theorem col_get {L : Mtx} {b j : Nat} {l : List UInt8} (h : L[j]? = some l) : (col L b).getD j 0 = l.getD b 0 := by
  unfold col
  rw [List.getD_eq_getElem?_getD, List.getElem?_map, h]; rfl
theorem linK_get {r : List UInt8} {L : Mtx} {n : Nat} (hL : ∀ (k : Nat) (l : List UInt8), L[k]? = some l → l.length = n) (b : Nat) (hb : b < n) : ∀ j, j ≤ L.length → (linK r L n j).getD b 0 = dotK r (col L b) j
  | 0, _ => by
    show (List.replicate n (0 : UInt8)).getD b 0 = 0
    rw [List.getD_eq_getElem?_getD, List.getElem?_replicate, if_pos hb]; rfl
  | j + 1, h => by
    have ih := linK_get (r := r) hL b hb j (by omega)
    have hl := List.getElem?_eq_getElem (show j < L.length by omega)
    show (addR (linK r L n j) (L.getD j []) (r.getD j 0)).getD b 0 = dotK r (col L b) j ^^^ bm (r.getD j 0) ((col L b).getD j 0)
    rw [add_get _ _ _ (by rw [linK_length r L n hL j (by omega), getD_of hl, hL j _ hl]), ih, getD_of hl, col_get hl, bm_comm]
theorem lin_get {r : List UInt8} {L : Mtx} {n : Nat} (hr : r.length ≤ L.length) (hL : ∀ (k : Nat) (l : List UInt8), L[k]? = some l → l.length = n) (b : Nat) (hb : b < n) : (lin r L n).getD b 0 = dot r (col L b) := linK_get hL b hb _ hr
theorem bytes_ext {x y : List UInt8} {n : Nat} (hx : x.length = n) (hy : y.length = n) (h : ∀ b, b < n → x.getD b 0 = y.getD b 0) : x = y := by
  apply List.ext_getElem?
  intro b
  by_cases hb : b < n
  · have := h b hb
    rw [List.getD_eq_getElem?_getD, List.getD_eq_getElem?_getD, List.getElem?_eq_getElem (by omega), List.getElem?_eq_getElem (by omega)] at this
    rw [List.getElem?_eq_getElem (by omega), List.getElem?_eq_getElem (by omega)]
    exact congrArg some this
  · rw [List.getElem?_eq_none (by omega), List.getElem?_eq_none (by omega)]
theorem lin_ext {r s : List UInt8} {L M : Mtx} {n : Nat} (hr : r.length ≤ L.length) (hs : s.length ≤ M.length) (hL : ∀ (k : Nat) (l : List UInt8), L[k]? = some l → l.length = n) (hM : ∀ (k : Nat) (l : List UInt8), M[k]? = some l → l.length = n)
    (h : ∀ b, b < n → dot r (col L b) = dot s (col M b)) : lin r L n = lin s M n :=
  bytes_ext (lin_length hr hL) (lin_length hs hM) fun b hb => by rw [lin_get hr hL b hb, lin_get hs hM b hb]; exact h b hb
/-- a column of products -/
theorem col_linM {M L : Mtx} {n : Nat} (hM : ∀ (k : Nat) (r : List UInt8), M[k]? = some r → r.length ≤ L.length) (hL : ∀ (k : Nat) (l : List UInt8), L[k]? = some l → l.length = n) (b : Nat) (hb : b < n) : col (linM M L n) b = applyL M (col L b) := by
  apply List.ext_getElem?
  intro j
  unfold col applyL linM
  rw [List.getElem?_map, List.getElem?_map, List.getElem?_map]
  rcases hj : M[j]? with _ | r
  · rfl
  · show some ((lin r L n).getD b 0) = some (dot r (col L b))
    rw [lin_get (hM j r hj) hL b hb]
/-! products of products -/
theorem dotK_zero (v : List UInt8) : ∀ k, dotK [] v k = 0
  | 0 => rfl
  | k + 1 => by
    show dotK [] v k ^^^ bm ([].getD k 0) (v.getD k 0) = 0
    rw [dotK_zero v k, show ([] : List UInt8).getD k 0 = 0 by simp, bm_zero]; rfl
theorem map_getD (f : List UInt8 → UInt8) {V : Mtx} {k : Nat} {l : List UInt8} (h : V[k]? = some l) : (V.map f).getD k 0 = f l := by
  rw [List.getD_eq_getElem?_getD, List.getElem?_map, h]; rfl
/-- a row times a matrix, times a vector -/
theorem dotK_times (r v : List UInt8) (V : Mtx) (n : Nat) (hV : ∀ (k : Nat) (l : List UInt8), V[k]? = some l → l.length = n) (k : Nat) (hk : k ≤ V.length) :
    ∀ j, j ≤ n → dotK ((List.range n).map fun a => dotK r (col V a) k) v j = dotK r (V.map fun l => dotK l v j) k
  | 0, _ => by
    show (0 : UInt8) = _
    have e0 : ∀ k, (V.map fun l => dotK l v 0).getD k 0 = 0 := fun k => by
      rw [List.getD_eq_getElem?_getD, List.getElem?_map]
      cases V[k]? <;> rfl
    have : ∀ k, dotK r (V.map fun l => dotK l v 0) k = 0 := fun k => by
      induction k with
      | zero => rfl
      | succ k ih =>
        show dotK r _ k ^^^ bm (r.getD k 0) ((V.map fun l => dotK l v 0).getD k 0) = 0
        rw [ih, e0, bm_zero']; rfl
    exact (this k).symm
  | j + 1, hj => by
    have ih := dotK_times r v V n hV k hk j (by omega)
    show dotK _ v j ^^^ bm (((List.range n).map fun a => dotK r (col V a) k).getD j 0) (v.getD j 0) = _
    rw [ih, List.getD_eq_getElem?_getD, List.getElem?_map, List.getElem?_range (by omega)]
    show dotK r (V.map fun l => dotK l v j) k ^^^ bm (dotK r (col V j) k) (v.getD j 0) = _
    have key : ∀ k, k ≤ V.length → dotK r (V.map fun l => dotK l v (j + 1)) k = dotK r (V.map fun l => dotK l v j) k ^^^ bm (dotK r (col V j) k) (v.getD j 0) := fun k => by
      induction k with
      | zero => intro _; show (0 : UInt8) = 0 ^^^ bm 0 _; rw [bm_zero]; rfl
      | succ k ihk =>
        intro hk'
        have hl := List.getElem?_eq_getElem (show k < V.length by omega)
        show dotK r _ k ^^^ bm (r.getD k 0) ((V.map fun l => dotK l v (j + 1)).getD k 0) = (dotK r _ k ^^^ bm (r.getD k 0) ((V.map fun l => dotK l v j).getD k 0)) ^^^ bm (dotK r (col V j) k ^^^ bm (r.getD k 0) ((col V j).getD k 0)) (v.getD j 0)
        rw [ihk (by omega), map_getD _ hl, map_getD _ hl, col_get hl]
        show _ ^^^ bm (r.getD k 0) (dotK V[k] v j ^^^ bm (V[k].getD j 0) (v.getD j 0)) = (_ ^^^ bm (r.getD k 0) (dotK V[k] v j)) ^^^ _
        rw [bm_add, bm_comm (r.getD k 0) (_ ^^^ _), bm_add, bm_comm (dotK V[k] v j), bm_comm (bm (V[k].getD j 0) (v.getD j 0)), bm_assoc, bx_swap]
    exact (key k hk).symm
theorem dot_times {r v : List UInt8} {V : Mtx} {n : Nat} (hr : r.length = V.length) (hV : ∀ (k : Nat) (l : List UInt8), V[k]? = some l → l.length = n) :
    dot ((List.range n).map fun a => dot r (col V a)) v = dot r (applyL V v) := by
  unfold dot
  rw [show ((List.range n).map fun a => dotK r (col V a) r.length).length = n by simp, dotK_times r v V n hV r.length (by omega) n (Nat.le_refl _)]
  congr 1
  unfold applyL dot
  apply List.ext_getElem?
  intro j
  rw [List.getElem?_map, List.getElem?_map]
  rcases hj : V[j]? with _ | l
  · rfl
  · show some (dotK l v n) = some (dotK l v l.length)
    rw [hV j l hj]
/-- a row of a product of matrices -/
theorem timesM_get {M O : Mtx} {t k : Nat} {r : List UInt8} (h : M[t]? = some r) (hd : Dim O k) (hk : 1 ≤ k) : (timesM M O)[t]? = some ((List.range k).map fun a => dot r (col O a)) := by
  have ht := (List.getElem?_eq_some_iff.1 h).1
  have hh : (O.headD []).length = k := hd.2 0 _ (head_get (by rw [hd.1]; omega))
  unfold timesM
  rw [hh]
  unfold turnedM
  rw [List.getElem?_map, List.getElem?_range (by omega)]
  show some (((((List.range k).map fun a => O.map fun r => r.getD a 0).map (applyL M))).map fun r => r.getD t 0) = _
  congr 1
  rw [List.map_map, List.map_map]
  apply List.map_congr_left
  intro a _
  show (applyL M (col O a)).getD t 0 = dot r (col O a)
  unfold applyL
  rw [List.getD_eq_getElem?_getD, List.getElem?_map, h]; rfl
/-- a missing one, made at once, is made of the inverse's products -/
theorem way_lin {k t j n : Nat} {m : List Int} {V src : Mtx} (hm : m[t]? = some (j : Int)) (hj : j < k + 2) (hV : Dim V k) (hk : 1 ≤ k) (hs : src.length = k) (hl : ∀ (i : Nat) (l : List UInt8), src[i]? = some l → l.length = n) :
    ∃ r, (wayM k m V)[t]? = some r ∧ r.length = k ∧ lin r src n = lin ((allM k).getD j []) (linM V src n) n := by
  have ha : (allM k)[j]? = some ((allM k).getD j []) := by
    have := List.getElem?_eq_getElem (show j < (allM k).length by rw [allM_length]; exact hj)
    rw [getD_of this]; exact this
  have hrow : (pick (allM k) m)[t]? = some ((allM k).getD j []) := by
    unfold pick
    rw [List.getElem?_map, hm]
    show some ((allM k).getD (Int.toNat (j : Int)) []) = _
    rw [Int.toNat_natCast]
  have hrl := allM_row k j _ ha
  refine ⟨_, timesM_get hrow hV hk, by simp, ?_⟩
  have hVs : ∀ (i : Nat) (r : List UInt8), V[i]? = some r → r.length ≤ src.length := fun i r hr => by rw [hV.2 i r hr, hs]; exact Nat.le_refl _
  refine lin_ext (by simp [hs]) (by rw [hrl, linM_length, hV.1]; exact Nat.le_refl _) hl (fun i l hi => ?_) fun b hb => ?_
  · unfold linM at hi
    rw [List.getElem?_map] at hi
    obtain ⟨r, hr, rfl⟩ := Option.map_eq_some_iff.1 hi
    exact lin_length (hVs i r hr) hl
  · rw [dot_times (by rw [hrl, hV.1]) hV.2, col_linM hVs hl b hb]
/-- what Rebuild tells, one by one -/
theorem reb_get {k : Nat} {S : Mtx} {V : Mtx × Mtx} (h : rebB k S = true) (hk1 : 1 ≤ k) (hk2 : k ≤ 253) (hV : invK k (pick (allM k) ((thereL S).take k)) k = some V) {j : Nat} (hj : j < k + 2) :
    (rebL k S)[j]? = some (if (S.getD j []).length = 0 then lin ((allM k).getD j []) (linM V.2 (pick S ((thereL S).take k)) (lenS S)) (lenS S) else S.getD j []) := by
  obtain ⟨h1, h2, _, h4, h5⟩ := lens_of h hk1
  have hd := first_dim h1 h5
  have hdV : Dim V.2 k := (invK_good hd k V (Nat.le_refl _) hV).d2
  have hjS : j < S.length := by omega
  have hnd : (missL S).Nodup := miss_nodup S S.length
  unfold rebL
  rw [if_pos h]
  by_cases h0 : (S.getD j []).length = 0
  · rw [if_pos h0]
    obtain ⟨t, ht⟩ := List.getElem?_of_mem ((mem_miss (S := S) (x := (j : Int)) S.length).2 ⟨j, rfl, hjS, h0⟩)
    have htl : t < (missL S).length := (List.getElem?_eq_some_iff.1 ht).1
    have e : ((missL S).getD t 0).toNat = j := by
      rw [List.getD_eq_getElem?_getD, show (missL S)[t]? = some (j : Int) from ht]; rfl
    rw [setK_at (S := S) (m := missL S) (R := madeL k S) hjS e (missL S).length htl (fun s hs hst q => by
      have e1 : (missL S)[s]? = some (missL S)[s] := List.getElem?_eq_getElem hs
      obtain ⟨n, hn, _⟩ := (mem_miss (S := S) S.length).1 (List.getElem_mem hs)
      rw [List.getD_eq_getElem?_getD, e1] at q
      have q2 : (missL S)[s].toNat = j := q
      have q3 : (missL S)[s] = (missL S)[t] := by
        have e3 : (missL S)[t] = (j : Int) := (List.getElem?_eq_some_iff.1 ht).2
        rw [e3]
        have e4 : (missL S)[s] = (n : Int) := hn
        rw [e4] at q2 ⊢
        omega
      exact hst ((List.getElem_inj hnd).1 q3))]
    congr 1
    obtain ⟨r, hr1, hr2, hr3⟩ := way_lin (n := lenS S) (show (missL S)[t]? = some (j : Int) from ht) hj hdV hk1 (src := pick S ((thereL S).take k)) (by rw [pick_length, List.length_take]; omega) (first_len h4)
    rw [← hr3]
    have : madeL k S = linM (wayM k (missL S) V.2) (pick S ((thereL S).take k)) (lenS S) := by
      unfold madeL remL
      rw [hV]
      exact if_neg (by omega)
    rw [this]
    exact getD_of (linM_get _ _ _ t r hr1)
  · rw [if_neg h0, setK_other _ (fun t ht q => by
      have e1 : (missL S)[t]? = some (missL S)[t] := List.getElem?_eq_getElem ht
      obtain ⟨n, hn, hn1, hn2⟩ := (mem_miss (S := S) S.length).1 (List.getElem_mem ht)
      rw [List.getD_eq_getElem?_getD, e1] at q
      have q2 : (missL S)[t].toNat = j := q
      have e4 : (missL S)[t] = (n : Int) := hn
      rw [e4] at q2
      have : n = j := by omega
      subst this
      exact h0 hn2), List.getElem?_eq_getElem hjS, getD_of (List.getElem?_eq_getElem hjS)]
end Go.Proofs.Ytonihcgjepfpkaa

/-
  The program's pivot, swap, scale, add.
-/
import Derived.Test.YtbfbjmngcojaoaaGf14
namespace Go.Proofs.Ytbfbjmngcojaoaa
open Go.RowKit

set_option maxRecDepth 20000
def OpPost (w : World) (lo hi : Nat) (v : Value) (M : Mtx) (e : Ending) (w' : World) : Prop := e = .returned (.tuple #[]) ∧ MatO w' lo hi v M ∧ Out lo hi w w'
set_option maxHeartbeats 800000 in
theorem swap_any (g n c i p : Nat) (u : Value) (M : Mtx) (lo hi : Nat) (w : World) (h : MatO w lo hi (.slice (some ⟨g, 0, none⟩) n c) M) (hn : n = M.length) (hi' : i < n) (hp : p < n) (hn2 : n ≤ 255) :
    Calls Try.prog 49 #[.slice (some ⟨g, 0, none⟩) n c, .int .i64 (i : Int), .int .i64 (p : Int), u] w (OpPost w lo hi (.slice (some ⟨g, 0, none⟩) n c) (swapM M i p)) := by
  obtain ⟨ri, rp, q1, q2, q3, q4, q5, q6, ⟨bi, ci, rfl⟩, ⟨bp, cp, rfl⟩, q7, q8⟩ := h.swap (i := i) (p := p) (by omega) (by omega)
  have Hq : Hid (lo ≤ g ∧ g < hi) := ⟨q5, q6⟩
  have H7 := Lib.hid q7
  have H8 := Lib.hid q8
  generalize (M.getD i []).length = l1 at *
  generalize (M.getD p []).length = l2 at *
  have hi1 : (i : Int) < (n : Int) := by omega
  have hp1 : (p : Int) < (n : Int) := by omega
  by_cases hip : i = p
  · subst hip
    rw [q1] at q2
    have e1 := Option.some.inj q2
    rw [← e1] at H7
    clear h hn hi' hp hn2 q5 q6 q7 q8 H8 q2 e1 q4
    go_enter Try.func49, Try.ntmps49
    go_wp2_with fail
    go_region
    all_goals
      go_wp2_with fail
      go_end0
      refine ⟨rfl, ?_, ?_⟩
      · first | exact MatO.drewN H7.out 1 | simpa using MatO.drewN H7.out 1
      · exact (((Out.refl lo hi w).set Hq.out.1 Hq.out.2 _).set Hq.out.1 Hq.out.2 _).drewN 1
  · have hpi : ¬ p = i := fun e => hip e.symm
    clear h hn hi' hp hn2 q5 q6 q7 q8
    go_enter Try.func49, Try.ntmps49
    go_wp2_with fail
    go_region
    all_goals
      go_wp2_with fail
      go_end0
      refine ⟨rfl, ?_, ?_⟩
      · first | exact MatO.drewN H7.out 1 | exact MatO.drewN H8.out 1
      · exact (((Out.refl lo hi w).set Hq.out.1 Hq.out.2 _).set Hq.out.1 Hq.out.2 _).drewN 1
set_option maxHeartbeats 800000 in
theorem pivot_any (A : Option Addr) (c i : Nat) (M : Mtx) (w : World) (B : Nat) (h : RM w B A M) (hl : M.length ≤ 255) (hi : i < M.length) (hn : ∀ (k : Nat) (l : List UInt8), M[k]? = some l → i < l.length) :
    Calls Try.prog 48 #[.slice A M.length c, .int .i64 (i : Int)] w fun e w' => e = .returned (.int .i64 (pivI (pivot M i))) ∧ w = w' := by
  obtain ⟨b, o, rfl, hb⟩ := h.at_ (by omega)
  obtain ⟨N, hN⟩ : ∃ N, N = M.length := ⟨_, rfl⟩
  have HN := Lib.hid hN
  have Hh := Lib.hid h
  have Hn := Lib.hid hn
  have hN1 : (N : Int) ≤ 255 := by omega
  have Hst : Hid (pivFrom M i (N - i) i = pivot M i ∧ i ≤ N) := ⟨by rw [hN]; rfl, by omega⟩
  rw [← hN]
  generalize pivot M i = res at *
  clear h hl hi hn hN
  go_enter Try.func48, Try.ntmps48
  go_wp2_with fail
  go_loop [5] (fun kv => ∃ k : Nat, kv = .int .i64 (k : Int) ∧ k ≤ N ∧ Hid (pivFrom M i (N - k) k = res)) (fun kv => N - (intOf kv).toNat)
  case atStart => exact ⟨i, rfl, Hst.out.2, Hst.out.1⟩
  case round =>
    obtain ⟨k, rfl, hk, hrel⟩ := hrel
    by_cases hlt : k < N
    · obtain ⟨l, hx⟩ : ∃ l, M[k]? = some l := ⟨_, List.getElem?_eq_getElem (by rw [← HN.out]; exact hlt)⟩
      obtain ⟨A', c', hc, hr, _⟩ := Hh.out.row hx
      have hil := Hn.out k l hx
      obtain ⟨b', o', rfl, _⟩ := hr.flat (by omega)
      obtain ⟨x, hxx⟩ : ∃ x, l[i]? = some x := ⟨_, List.getElem?_eq_getElem hil⟩
      have k1 : w.cell? ⟨b', o' + i, none⟩ = some (.int .u8 (x.toNat : Int)) := by
        obtain ⟨ad, e, _, hc⟩ := hr i x hxx
        cases e
        rw [add_flat] at hc
        exact hc
      have hlt' : (k : Int) < (N : Int) := by omega
      have hil' : (i : Int) < (l.length : Int) := by omega
      have hs : pivFrom M i (N - k) k = if x ≠ 0 then some k else pivFrom M i (N - (k + 1)) (k + 1) := by
        obtain ⟨m, hm⟩ : ∃ m, N - k = m + 1 := ⟨N - k - 1, by omega⟩
        rw [hm, show N - (k + 1) = m by omega]
        show (if at2 M k i ≠ 0 then some k else pivFrom M i m (k + 1)) = _
        unfold at2
        rw [getD_of hx, getD8 hxx]
      rw [hrel.out] at hs
      by_cases hx0 : x = 0
      · have hbb : ((x.toNat : Int) != 0) = false := by rw [hx0]; rfl
        rw [if_neg (by simpa using hx0)] at hs
        have Hs := Lib.hid hs.symm
        generalize x.toNat = xn at *
        generalize l.length = m at *
        clear hx hxx hx0 hs hr hrel hlt
        go_wp2_with fail
        go_round
        case rel => exact ⟨k + 1, by go_num, by omega, Hs.out⟩
        case measure => simp [intOf]; omega
      · have hbb : ((x.toNat : Int) != 0) = true := by
          have : x.toNat ≠ 0 := fun e => hx0 (UInt8.toNat_inj.1 e)
          simp; omega
        rw [if_pos hx0] at hs
        have Hs := Lib.hid hs
        generalize x.toNat = xn at *
        generalize l.length = m at *
        clear hx hxx hx0 hs hr hrel hlt
        go_wp2_with fail
        go_ret
        exact ⟨by rw [Hs.out]; rfl, rfl⟩
    · obtain rfl : k = N := by omega
      have Hs : Hid (res = none) := by
        show _ = _
        rw [← hrel.out, Nat.sub_self]; rfl
      clear hlt hrel
      go_wp2_with fail
      go_ret
      exact ⟨by rw [Hs.out]; rfl, rfl⟩

/-- the first j elements scaled -/
def scaleP (r : List UInt8) (x : UInt8) (j : Nat) : List UInt8 := (r.take j).map (fun y => bm y x) ++ r.drop j
theorem scaleP_length (r : List UInt8) (x : UInt8) (j : Nat) : (scaleP r x j).length = r.length := by
  simp [scaleP]; omega
theorem scaleP_get (r : List UInt8) (x y : UInt8) (j : Nat) (h : r[j]? = some y) : (scaleP r x j)[j]? = some y := by
  have hj := (List.getElem?_eq_some_iff.1 h).1
  unfold scaleP
  rw [List.getElem?_append_right (by simp; omega), List.getElem?_drop, List.length_map, List.length_take, show j + (j - min j r.length) = j by omega]
  exact h
theorem scaleP_step (r : List UInt8) (x y : UInt8) (j : Nat) (h : r[j]? = some y) : (scaleP r x j).set j (bm y x) = scaleP r x (j + 1) := by
  have hj := (List.getElem?_eq_some_iff.1 h).1
  have hy := (List.getElem?_eq_some_iff.1 h).2
  unfold scaleP
  rw [List.set_append_right _ _ (by simp; omega), List.length_map, List.length_take, show j - min j r.length = 0 by omega, List.drop_eq_getElem_cons hj, List.set_cons_zero, List.take_succ_eq_append_getElem hj, hy]
  simp
theorem scaleP_done (r : List UInt8) (x : UInt8) : scaleP r x r.length = scaleR r x := by simp [scaleP, scaleR]
def ScRel (w : World) (lo hi g n c i b c0 m : Nat) (M : Mtx) (r : List UInt8) (x : UInt8) (j : Nat) (wr : World) : Prop :=
  MatO wr lo hi (.slice (some ⟨g, 0, none⟩) n c) (M.set i (scaleP r x j)) ∧ Out lo hi w wr ∧ wr.cell? ⟨g, i, none⟩ = some (.slice (some ⟨b, 0, none⟩) m c0)
theorem ScRel.drewN {w wr : World} {lo hi g n c i b c0 m j : Nat} {M : Mtx} {r : List UInt8} {x : UInt8} (h : ScRel w lo hi g n c i b c0 m M r x j wr) (q : Nat) : ScRel w lo hi g n c i b c0 m M r x j (wr.drewN q) := ⟨h.1.drewN q, h.2.1.drewN q, h.2.2⟩
theorem sc_facts {w wr : World} {lo hi g n c i b c0 m j : Nat} {M : Mtx} {r : List UInt8} {x y : UInt8} (h : ScRel w lo hi g n c i b c0 m M r x j wr) (hi' : i < M.length) (hy : r[j]? = some y) :
    wr.cell? ⟨b, j, none⟩ = some (.int .u8 (y.toNat : Int)) ∧ wr.frozen? ⟨b, j, none⟩ = false ∧ b ≠ g ∧ ScRel w lo hi g n c i b c0 m M r x (j + 1) (wr.setCell ⟨b, j, none⟩ (.int .u8 ((bm y x).toNat : Int))) := by
  obtain ⟨h1, h2, h3⟩ := h
  obtain ⟨b', c', hr, hset⟩ := h1.row (i := i) (l := scaleP r x j) (List.getElem?_set_self hi')
  have e := hr.head
  rw [h3] at e
  have hb : b' = b := by
    have := (Value.slice.inj (Option.some.inj e)).1
    simpa using this.symm
  subst hb
  refine ⟨hr.cells j y (scaleP_get r x y j hy), hr.free j, hr.ne, ?_, h2.set hr.low hr.high _, ?_⟩
  · have := hset j (bm y x)
    rw [List.set_set, scaleP_step r x y j hy] at this
    exact this
  · exact (World.cell?_of_block (w := wr) (Below.heap_setCell _ _ _ _ fun e => hr.ne e.symm)).trans h3
set_option maxHeartbeats 1600000 in
theorem scale_any (g n c i : Nat) (u : Value) (x : UInt8) (M : Mtx) (lo hi : Nat) (w : World) (h : MatO w lo hi (.slice (some ⟨g, 0, none⟩) n c) M) (hn : n = M.length) (hi' : i < n) (hn2 : n ≤ 255) (hr2 : (M.getD i []).length ≤ 255) :
    Calls Try.prog 50 #[.slice (some ⟨g, 0, none⟩) n c, .int .i64 (i : Int), u, .int .u8 (x.toNat : Int)] w (OpPost w lo hi (.slice (some ⟨g, 0, none⟩) n c) (scaleM M i x)) := by
  obtain ⟨r, hr⟩ : ∃ r, M[i]? = some r := ⟨_, List.getElem?_eq_getElem (by omega)⟩
  have hg := getD_of hr
  obtain ⟨b, c0, hrow, _⟩ := h.row hr
  have q0 := hrow.head
  have q1 := hrow.cap
  obtain ⟨m, hm⟩ : ∃ m, m = r.length := ⟨_, rfl⟩
  have Hst : Hid (ScRel w lo hi g n c i b c0 m M r x 0 w) := by
    refine ⟨?_, Out.refl _ _ _, by rw [hm]; exact q0⟩
    have e1 : M.set i (scaleP r x 0) = M := by
      have : scaleP r x 0 = r := by simp [scaleP]
      rw [this]
      apply List.ext_getElem?
      intro k
      rw [List.getElem?_set]
      by_cases e : i = k
      · subst e; rw [if_pos rfl, if_pos (by omega), hr]
      · rw [if_neg e]
    rw [e1]
    exact h
  have Hm : Hid (m = r.length ∧ i < M.length ∧ M.set i (scaleP r x m) = scaleM M i x) := ⟨hm, by omega, by unfold scaleM; rw [hg, hm, scaleP_done]⟩
  have hml : (m : Int) ≤ 255 := by rw [hm, ← hg]; omega
  have hi1 : (i : Int) < (n : Int) := by omega
  rw [← hm] at q0 q1
  have q1' : (m : Int) ≤ (c0 : Int) := by omega
  clear h hn hi' hn2 hr2 hr hg hrow hm
  go_enter Try.func50, Try.ntmps50
  go_wp2_with fail
  go_loopw [8, 9, 15] (fun _ _ jv wr => ∃ j : Nat, jv = .int .i64 (j : Int) ∧ j ≤ m ∧ Hid (ScRel w lo hi g n c i b c0 m M r x j wr)) (fun _ _ jv _ => m - (intOf jv).toNat)
  case atStart => exact ⟨0, rfl, Nat.zero_le _, Hst.out⟩
  case round =>
    obtain ⟨j, rfl, hj, hrel⟩ := hrel
    by_cases hlt : j < m
    · obtain ⟨y, hy⟩ : ∃ y, r[j]? = some y := ⟨_, List.getElem?_eq_getElem (by rw [← Hm.out.1]; exact hlt)⟩
      obtain ⟨k1, k2, k3, k4⟩ := sc_facts hrel.out Hm.out.2.1 hy
      have k5 := hrel.out.2.2
      have Hn := Lib.hid k4
      have HM : Hid (∀ W, Calls Try.prog 19 #[.int .u8 (y.toNat : Int), .int .u8 (x.toNat : Int)] W fun e w' => e = .returned (.int .u8 ((bm y x).toNat : Int)) ∧ w' = W) := fun W => by
        have := mul_any y.toNat x.toNat W (u8_lt y) (u8_lt x)
        rw [← bm_nat] at this
        exact this.mono fun _ _ ⟨a, b⟩ => ⟨a, b.symm⟩
      have hlt' : (j : Int) < (m : Int) := by omega
      generalize (bm y x).toNat = z at *
      generalize y.toNat = yn at *
      generalize x.toNat = xn at *
      clear hy k4 hrel hlt
      go_wp2_with fail
      refine wp_region_still_tail 9 (by kernel_rfl) (by kernel_rfl) ?_
      simp only [List.take_succ_cons, List.take_zero, List.drop_succ_cons, List.drop_zero]
      repeat (first | still_step | still_call (HM.out _))
      try refine wpStill_nil ?_
      change wpList _ _ _ _ _ wr.drew
      go_wp2_with fail
      go_roundw
      case rel => exact ⟨j + 1, by go_num, by omega, Hn.out.drewN 1⟩
      case measure => simp [intOf]; omega
    · obtain rfl : j = m := by omega
      have Hd : Hid (MatO wr lo hi (.slice (some ⟨g, 0, none⟩) n c) (scaleM M i x) ∧ Out lo hi w wr) := by
        obtain ⟨h1, h2, _⟩ := hrel.out
        rw [Hm.out.2.2] at h1
        exact ⟨h1, h2⟩
      clear hlt hrel
      go_wp2_with fail
      go_end0
      exact ⟨rfl, Hd.out.1, Hd.out.2⟩

/-- the first j elements added to -/
def addP (r o : List UInt8) (x : UInt8) (j : Nat) : List UInt8 := List.zipWith (fun a b => a ^^^ bm b x) (r.take j) (o.take j) ++ r.drop j
theorem addP_length (r o : List UInt8) (x : UInt8) (j : Nat) (h : r.length = o.length) : (addP r o x j).length = r.length := by
  simp [addP, h]; omega
theorem addP_get (r o : List UInt8) (x y : UInt8) (j : Nat) (h : r.length = o.length) (hy : r[j]? = some y) : (addP r o x j)[j]? = some y := by
  have hj := (List.getElem?_eq_some_iff.1 hy).1
  unfold addP
  have hl : (List.zipWith (fun a b => a ^^^ bm b x) (r.take j) (o.take j)).length = j := by simp; omega
  rw [List.getElem?_append_right (by omega), hl, Nat.sub_self, List.getElem?_drop, Nat.add_zero]
  exact hy
theorem addP_step (r o : List UInt8) (x y z : UInt8) (j : Nat) (h : r.length = o.length) (hy : r[j]? = some y) (hz : o[j]? = some z) : (addP r o x j).set j (y ^^^ bm z x) = addP r o x (j + 1) := by
  have hj := (List.getElem?_eq_some_iff.1 hy).1
  have hj2 := (List.getElem?_eq_some_iff.1 hz).1
  have ey := (List.getElem?_eq_some_iff.1 hy).2
  have ez := (List.getElem?_eq_some_iff.1 hz).2
  unfold addP
  have hl : (List.zipWith (fun a b => a ^^^ bm b x) (r.take j) (o.take j)).length = j := by simp; omega
  rw [List.set_append_right _ _ (by omega), hl, Nat.sub_self, List.drop_eq_getElem_cons hj, List.set_cons_zero, List.take_succ_eq_append_getElem hj, List.take_succ_eq_append_getElem hj2, ey, ez,
    List.zipWith_append (by simp; omega)]
  simp
theorem addP_done (r o : List UInt8) (x : UInt8) (h : r.length = o.length) : addP r o x r.length = addR r o x := by
  unfold addP addR
  rw [List.take_length, h, List.take_length, List.drop_eq_nil_of_le (by omega), List.append_nil]
def AdRel (w : World) (lo hi g n c p i b c0 b1 c1 m : Nat) (M : Mtx) (r o : List UInt8) (x : UInt8) (j : Nat) (wr : World) : Prop :=
  MatO wr lo hi (.slice (some ⟨g, 0, none⟩) n c) (M.set p (addP r o x j)) ∧ Out lo hi w wr ∧ wr.cell? ⟨g, p, none⟩ = some (.slice (some ⟨b, 0, none⟩) m c0) ∧ wr.cell? ⟨g, i, none⟩ = some (.slice (some ⟨b1, 0, none⟩) m c1)
theorem AdRel.drewN {w wr : World} {lo hi g n c p i b c0 b1 c1 m j : Nat} {M : Mtx} {r o : List UInt8} {x : UInt8} (h : AdRel w lo hi g n c p i b c0 b1 c1 m M r o x j wr) (q : Nat) : AdRel w lo hi g n c p i b c0 b1 c1 m M r o x j (wr.drewN q) := ⟨h.1.drewN q, h.2.1.drewN q, h.2.2⟩
theorem ad_facts {w wr : World} {lo hi g n c p i b c0 b1 c1 m j : Nat} {M : Mtx} {r o : List UInt8} {x y z : UInt8} (h : AdRel w lo hi g n c p i b c0 b1 c1 m M r o x j wr) (hp : p < M.length) (hip : p ≠ i) (ho : M[i]? = some o) (hl : r.length = o.length) (hy : r[j]? = some y) (hz : o[j]? = some z) :
    wr.cell? ⟨b, j, none⟩ = some (.int .u8 (y.toNat : Int)) ∧ wr.cell? ⟨b1, j, none⟩ = some (.int .u8 (z.toNat : Int)) ∧ wr.frozen? ⟨b, j, none⟩ = false ∧ b ≠ g ∧ AdRel w lo hi g n c p i b c0 b1 c1 m M r o x (j + 1) (wr.setCell ⟨b, j, none⟩ (.int .u8 ((y ^^^ bm z x).toNat : Int))) := by
  obtain ⟨h1, h2, h3, h4⟩ := h
  obtain ⟨b', c', hr, hset⟩ := h1.row (i := p) (l := addP r o x j) (List.getElem?_set_self hp)
  obtain ⟨b1', c1', hr1, _⟩ := h1.row (i := i) (l := o) (by rw [List.getElem?_set_ne hip]; exact ho)
  have e := hr.head
  rw [h3] at e
  have hb : b' = b := by
    have := (Value.slice.inj (Option.some.inj e)).1
    simpa using this.symm
  have e1 := hr1.head
  rw [h4] at e1
  have hb1 : b1' = b1 := by
    have := (Value.slice.inj (Option.some.inj e1)).1
    simpa using this.symm
  subst hb
  subst hb1
  refine ⟨hr.cells j y (addP_get r o x y j hl hy), hr1.cells j z hz, hr.free j, hr.ne, ?_, h2.set hr.low hr.high _, ?_, ?_⟩
  · have := hset j (y ^^^ bm z x)
    rw [List.set_set, addP_step r o x y z j hl hy hz] at this
    exact this
  · exact (World.cell?_of_block (w := wr) (Below.heap_setCell _ _ _ _ fun e => hr.ne e.symm)).trans h3
  · exact (World.cell?_of_block (w := wr) (Below.heap_setCell _ _ _ _ fun e => hr.ne e.symm)).trans h4
set_option maxHeartbeats 1600000 in
theorem addrow_any (g n c p i : Nat) (x : UInt8) (M : Mtx) (lo hi : Nat) (w : World) (h : MatO w lo hi (.slice (some ⟨g, 0, none⟩) n c) M) (hn : n = M.length) (hp : p < n) (hi' : i < n) (hip : p ≠ i) (hn2 : n ≤ 255) (hr2 : (M.getD i []).length ≤ 255) (hrr : (M.getD p []).length = (M.getD i []).length) :
    Calls Try.prog 51 #[.slice (some ⟨g, 0, none⟩) n c, .int .i64 (p : Int), .int .i64 (i : Int), .int .u8 (x.toNat : Int)] w (OpPost w lo hi (.slice (some ⟨g, 0, none⟩) n c) (addM M p i x)) := by
  obtain ⟨r, hr⟩ : ∃ r, M[p]? = some r := ⟨_, List.getElem?_eq_getElem (by omega)⟩
  obtain ⟨o, ho⟩ : ∃ o, M[i]? = some o := ⟨_, List.getElem?_eq_getElem (by omega)⟩
  have hg := getD_of hr
  have hgo := getD_of ho
  obtain ⟨b, c0, hrow, _⟩ := h.row hr
  obtain ⟨b1, c1, hrow1, _⟩ := h.row ho
  have q0 := hrow.head
  have q1 := hrow.cap
  have q2 := hrow1.head
  have q3 := hrow1.cap
  rw [hg, hgo] at hrr
  obtain ⟨m, hm⟩ : ∃ m, m = r.length := ⟨_, rfl⟩
  rw [← hrr, ← hm] at q2 q3
  rw [← hm] at q0 q1
  have Hst : Hid (AdRel w lo hi g n c p i b c0 b1 c1 m M r o x 0 w) := by
    refine ⟨?_, Out.refl _ _ _, q0, q2⟩
    have e1 : M.set p (addP r o x 0) = M := by
      have : addP r o x 0 = r := by simp [addP]
      rw [this]
      apply List.ext_getElem?
      intro k
      rw [List.getElem?_set]
      by_cases e : p = k
      · subst e; rw [if_pos rfl, if_pos (by omega), hr]
      · rw [if_neg e]
    rw [e1]
    exact h
  have Hm : Hid (m = r.length ∧ p < M.length ∧ p ≠ i ∧ M[i]? = some o ∧ r.length = o.length ∧ M.set p (addP r o x m) = addM M p i x) := ⟨hm, by omega, hip, ho, hrr, by unfold addM; rw [hg, hgo, hm, addP_done r o x hrr]⟩
  have hml : (m : Int) ≤ 255 := by rw [hm, hrr, ← hgo]; omega
  have hi1 : (i : Int) < (n : Int) := by omega
  have hp1 : (p : Int) < (n : Int) := by omega
  have q1' : (m : Int) ≤ (c0 : Int) := by omega
  have q3' : (m : Int) ≤ (c1 : Int) := by omega
  clear h hn hi' hp hip hn2 hr2 hr ho hg hgo hrow hrow1 hrr hm q0
  go_enter Try.func51, Try.ntmps51
  go_wp2_with fail
  clear q2
  go_loopw [8, 9, 15] (fun _ _ jv wr => ∃ j : Nat, jv = .int .i64 (j : Int) ∧ j ≤ m ∧ Hid (AdRel w lo hi g n c p i b c0 b1 c1 m M r o x j wr)) (fun _ _ jv _ => m - (intOf jv).toNat)
  case atStart => exact ⟨0, rfl, Nat.zero_le _, Hst.out⟩
  case round =>
    obtain ⟨j, rfl, hj, hrel⟩ := hrel
    by_cases hlt : j < m
    · obtain ⟨y, hy⟩ : ∃ y, r[j]? = some y := ⟨_, List.getElem?_eq_getElem (by rw [← Hm.out.1]; exact hlt)⟩
      obtain ⟨z, hz⟩ : ∃ z, o[j]? = some z := ⟨_, List.getElem?_eq_getElem (by rw [← Hm.out.2.2.2.2.1, ← Hm.out.1]; exact hlt)⟩
      obtain ⟨k1, k2, k3, k4, k5⟩ := ad_facts hrel.out Hm.out.2.1 Hm.out.2.2.1 Hm.out.2.2.2.1 Hm.out.2.2.2.2.1 hy hz
      have k6 := hrel.out.2.2.1
      have Hn := Lib.hid k5
      have HM : Hid (∀ W, Calls Try.prog 19 #[.int .u8 (z.toNat : Int), .int .u8 (x.toNat : Int)] W fun e w' => e = .returned (.int .u8 ((bm z x).toNat : Int)) ∧ w' = W) := fun W => by
        have := mul_any z.toNat x.toNat W (u8_lt z) (u8_lt x)
        rw [← bm_nat] at this
        exact this.mono fun _ _ ⟨a, b⟩ => ⟨a, b.symm⟩
      have HA : Hid (∀ W, Calls Try.prog 18 #[.int .u8 (y.toNat : Int), .int .u8 ((bm z x).toNat : Int)] W fun e w' => e = .returned (.int .u8 ((y ^^^ bm z x).toNat : Int)) ∧ w' = W) := fun W => by
        have := add_any y.toNat (bm z x).toNat W (u8_lt y) (u8_lt _)
        rw [← bx_nat] at this
        exact this.mono fun _ _ ⟨a, b⟩ => ⟨a, b.symm⟩
      have hlt' : (j : Int) < (m : Int) := by omega
      generalize (y ^^^ bm z x).toNat = s2 at *
      generalize (bm z x).toNat = zx at *
      generalize y.toNat = yn at *
      generalize z.toNat = zn at *
      generalize x.toNat = xn at *
      clear hy hz k5 hrel hlt
      go_wp2_with fail
      refine wp_region_still_tail 17 (by kernel_rfl) (by kernel_rfl) ?_
      simp only [List.take_succ_cons, List.take_zero, List.drop_succ_cons, List.drop_zero]
      repeat (first | still_step | still_call (HM.out _) | still_call (HA.out _))
      try refine wpStill_nil ?_
      change wpList _ _ _ _ _ wr.drew
      go_wp2_with fail
      go_roundw
      case rel => exact ⟨j + 1, by go_num, by omega, Hn.out.drewN 1⟩
      case measure => simp [intOf]; omega
    · obtain rfl : j = m := by omega
      have Hd : Hid (MatO wr lo hi (.slice (some ⟨g, 0, none⟩) n c) (addM M p i x) ∧ Out lo hi w wr) := by
        obtain ⟨h1, h2, _⟩ := hrel.out
        rw [Hm.out.2.2.2.2.2] at h1
        exact ⟨h1, h2⟩
      clear hlt hrel
      go_wp2_with fail
      go_end0
      exact ⟨rfl, Hd.out.1, Hd.out.2⟩
end Go.Proofs.Ytbfbjmngcojaoaa

/-
  Row operations: plain, and in memory; the program's pivot, swap, scale, add.
-/
import Derived.Test.YtonihcgjepfpkaaGf13
import Derived.Test.YtonihcgjepfpkaaKGf4
namespace Go.Proofs.Ytonihcgjepfpkaa
open Go.RowKit

set_option maxRecDepth 20000
abbrev Mtx := List (List UInt8)
def at2 (M : Mtx) (i j : Nat) : UInt8 := (M.getD i []).getD j 0
def pivFrom (M : Mtx) (n : Nat) : Nat → Nat → Option Nat
  | 0, _ => none
  | f + 1, k => if at2 M k n ≠ 0 then some k else pivFrom M n f (k + 1)
def pivot (M : Mtx) (n : Nat) : Option Nat := pivFrom M n (M.length - n) n
def pivI (o : Option Nat) : Int := match o with | some k => (k : Int) | none => -1
def swapM (M : Mtx) (i p : Nat) : Mtx := (M.set i (M.getD p [])).set p (M.getD i [])
def scaleR (r : List UInt8) (x : UInt8) : List UInt8 := r.map fun y => bm y x
def scaleM (M : Mtx) (i : Nat) (x : UInt8) : Mtx := M.set i (scaleR (M.getD i []) x)
def addR (r o : List UInt8) (x : UInt8) : List UInt8 := List.zipWith (fun a b => a ^^^ bm b x) r o
def addM (M : Mtx) (r i : Nat) (x : UInt8) : Mtx := M.set r (addR (M.getD r []) (M.getD i []) x)
theorem getD_of {M : Mtx} {i : Nat} {l : List UInt8} (h : M[i]? = some l) : M.getD i [] = l := by rw [List.getD_eq_getElem?_getD, h]; rfl
theorem getD8 {l : List UInt8} {i : Nat} {x : UInt8} (h : l[i]? = some x) : l.getD i 0 = x := by rw [List.getD_eq_getElem?_getD, h]; rfl

/-- outside of the matrix all is as it was -/
def Out (lo hi : Nat) (w w' : World) : Prop := Kept (fun b => b < lo ∨ hi ≤ b) w w'
theorem Out.refl (lo hi : Nat) (w : World) : Out lo hi w w := Kept.refl _ _
theorem Out.drewN {lo hi : Nat} {w w' : World} (h : Out lo hi w w') (n : Nat) : Out lo hi w (w'.drewN n) := Kept.drewN h n
theorem Out.set {lo hi : Nat} {w w' : World} (h : Out lo hi w w') {b i : Nat} (h1 : lo ≤ b) (h2 : b < hi) (v : Value) : Out lo hi w (w'.setCell ⟨b, i, none⟩ v) :=
  Kept.setCell h (p := ⟨b, i, none⟩) (by show ¬ (b < lo ∨ hi ≤ b); omega) v
theorem Out.below {lo hi B : Nat} {w w' : World} (h : Out lo hi w w') (h1 : B ≤ lo) (hB : B ≤ w.heap.size) : Below B w w' := Kept.to_below h (fun b hb => .inl (by omega)) hB

/-- two rows change places in memory, in either order of the stores -/
theorem MatO.swap {w : World} {lo hi g n c : Nat} {M : Mtx} (h : MatO w lo hi (.slice (some ⟨g, 0, none⟩) n c) M) {i p : Nat} (hi' : i < M.length) (hp : p < M.length) :
    ∃ ri rp, w.cell? ⟨g, i, none⟩ = some ri ∧ w.cell? ⟨g, p, none⟩ = some rp ∧ w.frozen? ⟨g, i, none⟩ = false ∧ w.frozen? ⟨g, p, none⟩ = false ∧ lo ≤ g ∧ g < hi ∧
      (∃ bi ci, ri = .slice (some ⟨bi, 0, none⟩) (M.getD i []).length ci) ∧ (∃ bp cp, rp = .slice (some ⟨bp, 0, none⟩) (M.getD p []).length cp) ∧
      MatO ((w.setCell ⟨g, i, none⟩ rp).setCell ⟨g, p, none⟩ ri) lo hi (.slice (some ⟨g, 0, none⟩) n c) (swapM M i p) ∧
      MatO ((w.setCell ⟨g, p, none⟩ ri).setCell ⟨g, i, none⟩ rp) lo hi (.slice (some ⟨g, 0, none⟩) n c) (swapM M i p) := by
  obtain ⟨bi, ci, hri, _⟩ := h.row (List.getElem?_eq_getElem hi')
  obtain ⟨bp, cp, hrp, _⟩ := h.row (List.getElem?_eq_getElem hp)
  have gi : M.getD i [] = M[i] := getD_of (List.getElem?_eq_getElem hi')
  have gp : M.getD p [] = M[p] := getD_of (List.getElem?_eq_getElem hp)
  obtain ⟨rows, a, b, cc, d, e⟩ := h
  rcases a.form with ⟨hv, _⟩ | ⟨g', cap', cur, hv, hb', hc, hn, hm, hlc, ht⟩
  · cases hv
  cases hv
  have get : ∀ (k : Nat) (r : Value), k < rows.length → w.cell? ⟨g, k, none⟩ = some r → rows[k]? = some r := fun k r hk hr => by
    have hlt : k < cur.length := by omega
    have := hc.cell (List.getElem?_eq_getElem hlt)
    rw [hr] at this
    rw [← ht, List.getElem?_take_of_lt hk, List.getElem?_eq_getElem hlt]
    exact this.symm
  have q1 := get i _ (by rw [cc]; exact hi') hri.head
  have q2 := get p _ (by rw [cc]; exact hp) hrp.head
  have key : ∀ w' : World, (∀ k, k ≠ g → w'.heap[k]? = w.heap[k]?) → OwnV w' lo 41 (.slice (some ⟨g, 0, none⟩) rows.length c) ((rows.set i (.slice (some ⟨bp, 0, none⟩) M[p].length cp)).set p (.slice (some ⟨bi, 0, none⟩) M[i].length ci)) →
      MatO w' lo hi (.slice (some ⟨g, 0, none⟩) rows.length c) (swapM M i p) := by
    intro w' hk hown
    have hsig : ∀ (k : Nat) (r : Value) (l : List UInt8), ((rows.set i (.slice (some ⟨bp, 0, none⟩) M[p].length cp)).set p (.slice (some ⟨bi, 0, none⟩) M[i].length ci))[k]? = some r → k < rows.length ∧ rows[if k = p then i else if k = i then p else k]? = some r := by
      intro k r _ hr
      have hkl : k < rows.length := by
        have := (List.getElem?_eq_some_iff.1 hr).1
        simpa using this
      refine ⟨hkl, ?_⟩
      rw [List.getElem?_set] at hr
      by_cases h1 : p = k
      · subst h1
        rw [if_pos rfl, if_pos (by simpa using hkl)] at hr
        rw [if_pos rfl, q1]
        exact hr
      · rw [if_neg h1, List.getElem?_set] at hr
        rw [if_neg (fun e => h1 e.symm)]
        by_cases h2 : i = k
        · subst h2
          rw [if_pos rfl, if_pos hkl] at hr
          rw [if_pos rfl, q2]
          exact hr
        · rw [if_neg h2] at hr
          rw [if_neg (fun e => h2 e.symm)]
          exact hr
    have hM : ∀ (k : Nat), k < M.length → (swapM M i p)[k]? = M[if k = p then i else if k = i then p else k]? := by
      intro k hkl
      unfold swapM
      rw [gi, gp, List.getElem?_set]
      by_cases h1 : p = k
      · subst h1
        rw [if_pos rfl, if_pos (by simpa using hkl), if_pos rfl, List.getElem?_eq_getElem hi']
      · rw [if_neg h1, List.getElem?_set, if_neg (show ¬ k = p from fun e => h1 e.symm)]
        by_cases h2 : i = k
        · subst h2
          rw [if_pos rfl, if_pos hkl, if_pos rfl, List.getElem?_eq_getElem hp]
        · rw [if_neg h2, if_neg (show ¬ k = i from fun e => h2 e.symm)]
    refine ⟨(rows.set i (.slice (some ⟨bp, 0, none⟩) M[p].length cp)).set p (.slice (some ⟨bi, 0, none⟩) M[i].length ci), hown, fun k hk' => b k hk', by simp [swapM, cc], fun k r l hr hl => ?_, fun k k' rk rk' x hkk hrk hrk' hx hx' => ?_⟩
    · obtain ⟨hkl, hr'⟩ := hsig k r l hr
      rw [hM k (by rw [← cc]; exact hkl)] at hl
      obtain ⟨d1, d2, d3⟩ := d _ r l hr' hl
      refine ⟨d1, d2.move fun x hx => hk x ?_, d3⟩
      intro e'
      subst e'
      obtain ⟨bb, cap, rfl, _⟩ := d2.form d1
      cases hx
      rcases d2.toV.form with ⟨hv, _⟩ | ⟨g2, cap2, cur2, hv, _, hc2, _⟩
      · cases hv
      · have e3 := (Value.slice.inj hv).1
        simp at e3
        rw [← e3] at hc2
        exact absurd (hc.type hc2).1 (by decide)
    · obtain ⟨_, h1⟩ := hsig k rk [] hrk
      obtain ⟨_, h2⟩ := hsig k' rk' [] hrk'
      refine e _ _ rk rk' x ?_ h1 h2 hx hx'
      intro he
      apply hkk
      revert he
      split <;> split <;> (try split) <;> (try split) <;> omega
  have o1 : OwnV ((w.setCell ⟨g, i, none⟩ (.slice (some ⟨bp, 0, none⟩) M[p].length cp)).setCell ⟨g, p, none⟩ (.slice (some ⟨bi, 0, none⟩) M[i].length ci)) lo 41 (.slice (some ⟨g, 0, none⟩) rows.length c) ((rows.set i (.slice (some ⟨bp, 0, none⟩) M[p].length cp)).set p (.slice (some ⟨bi, 0, none⟩) M[i].length ci)) := (a.set i _).set p _
  have o2 : OwnV ((w.setCell ⟨g, p, none⟩ (.slice (some ⟨bi, 0, none⟩) M[i].length ci)).setCell ⟨g, i, none⟩ (.slice (some ⟨bp, 0, none⟩) M[p].length cp)) lo 41 (.slice (some ⟨g, 0, none⟩) rows.length c) ((rows.set i (.slice (some ⟨bp, 0, none⟩) M[p].length cp)).set p (.slice (some ⟨bi, 0, none⟩) M[i].length ci)) := by
    have := (a.set p (.slice (some ⟨bi, 0, none⟩) M[i].length ci)).set i (.slice (some ⟨bp, 0, none⟩) M[p].length cp)
    by_cases e1 : i = p
    · subst e1
      have e2 : (Value.slice (some ⟨bi, 0, none⟩) M[i].length ci) = .slice (some ⟨bp, 0, none⟩) M[i].length cp := Option.some.inj (hri.head.symm.trans hrp.head)
      rw [e2] at this ⊢
      exact this
    · rw [List.set_comm _ _ e1]
      exact this
  have far : ∀ (u v : Value) (x y : Nat) (k : Nat), k ≠ g → ((w.setCell ⟨g, x, none⟩ u).setCell ⟨g, y, none⟩ v).heap[k]? = w.heap[k]? := fun u v x y k hk => (Below.heap_setCell _ _ _ _ hk).trans (Below.heap_setCell _ _ _ _ hk)
  exact ⟨_, _, hri.head, hrp.head, hc.frozen i, hc.frozen p, hb', b g rfl, ⟨bi, ci, by rw [gi]⟩, ⟨bp, cp, by rw [gp]⟩, key _ (far _ _ _ _) o1, key _ (far _ _ _ _) o2⟩
end Go.Proofs.Ytonihcgjepfpkaa

/-
  The program's pivot, swap, scale, add.
-/
namespace Go.Proofs.Ytonihcgjepfpkaa
open Go.RowKit

set_option maxRecDepth 20000
def OpPost (w : World) (lo hi : Nat) (v : Value) (M : Mtx) (e : Ending) (w' : World) : Prop := e = .returned (.tuple #[]) ∧ MatO w' lo hi v M ∧ Out lo hi w w'
set_option maxHeartbeats 800000 in
theorem swap_any (g n c i p : Nat) (u : Value) (M : Mtx) (lo hi : Nat) (w : World) (h : MatO w lo hi (.slice (some ⟨g, 0, none⟩) n c) M) (hn : n = M.length) (hi' : i < n) (hp : p < n) (hn2 : n ≤ 255) :
    Calls Try.prog 63 #[.slice (some ⟨g, 0, none⟩) n c, .int .i64 (i : Int), .int .i64 (p : Int), u] w (OpPost w lo hi (.slice (some ⟨g, 0, none⟩) n c) (swapM M i p)) := by
  obtain ⟨ri, rp, q1, q2, q3, q4, q5, q6, ⟨bi, ci, rfl⟩, ⟨bp, cp, rfl⟩, q7, q8⟩ := h.swap (i := i) (p := p) (by omega) (by omega)
  have Hq : Hid (lo ≤ g ∧ g < hi) := ⟨q5, q6⟩
  have H7 := Lib.hid q7
  have H8 := Lib.hid q8
  generalize (M.getD i []).length = l1 at *
  generalize (M.getD p []).length = l2 at *
  have hi1 : (i : Int) < (n : Int) := by omega
  have hp1 : (p : Int) < (n : Int) := by omega
  by_cases hip : i = p
  · subst hip
    rw [q1] at q2
    have e1 := Option.some.inj q2
    rw [← e1] at H7
    clear h hn hi' hp hn2 q5 q6 q7 q8 H8 q2 e1 q4
    go_enter Try.func63, Try.ntmps63
    go_wp2_with fail
    go_region
    all_goals
      go_wp2_with fail
      go_end0
      refine ⟨rfl, ?_, ?_⟩
      · first | exact MatO.drewN H7.out 1 | simpa using MatO.drewN H7.out 1
      · exact (((Out.refl lo hi w).set Hq.out.1 Hq.out.2 _).set Hq.out.1 Hq.out.2 _).drewN 1
  · have hpi : ¬ p = i := fun e => hip e.symm
    clear h hn hi' hp hn2 q5 q6 q7 q8
    go_enter Try.func63, Try.ntmps63
    go_wp2_with fail
    go_region
    all_goals
      go_wp2_with fail
      go_end0
      refine ⟨rfl, ?_, ?_⟩
      · first | exact MatO.drewN H7.out 1 | exact MatO.drewN H8.out 1
      · exact (((Out.refl lo hi w).set Hq.out.1 Hq.out.2 _).set Hq.out.1 Hq.out.2 _).drewN 1
set_option maxHeartbeats 800000 in
theorem pivot_any (A : Option Addr) (c i : Nat) (M : Mtx) (w : World) (B : Nat) (h : RM w B A M) (hl : M.length ≤ 255) (hi : i < M.length) (hn : ∀ (k : Nat) (l : List UInt8), M[k]? = some l → i < l.length) :
    Calls Try.prog 62 #[.slice A M.length c, .int .i64 (i : Int)] w fun e w' => e = .returned (.int .i64 (pivI (pivot M i))) ∧ w = w' := by
  obtain ⟨b, o, rfl, hb⟩ := h.at_ (by omega)
  obtain ⟨N, hN⟩ : ∃ N, N = M.length := ⟨_, rfl⟩
  have HN := Lib.hid hN
  have Hh := Lib.hid h
  have Hn := Lib.hid hn
  have hN1 : (N : Int) ≤ 255 := by omega
  have Hst : Hid (pivFrom M i (N - i) i = pivot M i ∧ i ≤ N) := ⟨by rw [hN]; rfl, by omega⟩
  rw [← hN]
  generalize pivot M i = res at *
  clear h hl hi hn hN
  go_enter Try.func62, Try.ntmps62
  go_wp2_with fail
  go_loop [5] (fun kv => ∃ k : Nat, kv = .int .i64 (k : Int) ∧ k ≤ N ∧ Hid (pivFrom M i (N - k) k = res)) (fun kv => N - (intOf kv).toNat)
  case atStart => exact ⟨i, rfl, Hst.out.2, Hst.out.1⟩
  case round =>
    obtain ⟨k, rfl, hk, hrel⟩ := hrel
    by_cases hlt : k < N
    · obtain ⟨l, hx⟩ : ∃ l, M[k]? = some l := ⟨_, List.getElem?_eq_getElem (by rw [← HN.out]; exact hlt)⟩
      obtain ⟨A', c', hc, hr, _⟩ := Hh.out.row hx
      have hil := Hn.out k l hx
      obtain ⟨b', o', rfl, _⟩ := hr.flat (by omega)
      obtain ⟨x, hxx⟩ : ∃ x, l[i]? = some x := ⟨_, List.getElem?_eq_getElem hil⟩
      have k1 : w.cell? ⟨b', o' + i, none⟩ = some (.int .u8 (x.toNat : Int)) := by
        obtain ⟨ad, e, _, hc⟩ := hr i x hxx
        cases e
        rw [add_flat] at hc
        exact hc
      have hlt' : (k : Int) < (N : Int) := by omega
      have hil' : (i : Int) < (l.length : Int) := by omega
      have hs : pivFrom M i (N - k) k = if x ≠ 0 then some k else pivFrom M i (N - (k + 1)) (k + 1) := by
        obtain ⟨m, hm⟩ : ∃ m, N - k = m + 1 := ⟨N - k - 1, by omega⟩
        rw [hm, show N - (k + 1) = m by omega]
        show (if at2 M k i ≠ 0 then some k else pivFrom M i m (k + 1)) = _
        unfold at2
        rw [getD_of hx, getD8 hxx]
      rw [hrel.out] at hs
      by_cases hx0 : x = 0
      · have hbb : ((x.toNat : Int) != 0) = false := by rw [hx0]; rfl
        rw [if_neg (by simpa using hx0)] at hs
        have Hs := Lib.hid hs.symm
        generalize x.toNat = xn at *
        generalize l.length = m at *
        clear hx hxx hx0 hs hr hrel hlt
        go_wp2_with fail
        go_round
        case rel => exact ⟨k + 1, by go_num, by omega, Hs.out⟩
        case measure => simp [intOf]; omega
      · have hbb : ((x.toNat : Int) != 0) = true := by
          have : x.toNat ≠ 0 := fun e => hx0 (UInt8.toNat_inj.1 e)
          simp; omega
        rw [if_pos hx0] at hs
        have Hs := Lib.hid hs
        generalize x.toNat = xn at *
        generalize l.length = m at *
        clear hx hxx hx0 hs hr hrel hlt
        go_wp2_with fail
        go_ret
        exact ⟨by rw [Hs.out]; rfl, rfl⟩
    · obtain rfl : k = N := by omega
      have Hs : Hid (res = none) := by
        show _ = _
        rw [← hrel.out, Nat.sub_self]; rfl
      clear hlt hrel
      go_wp2_with fail
      go_ret
      exact ⟨by rw [Hs.out]; rfl, rfl⟩

/-- the first j elements scaled -/
def scaleP (r : List UInt8) (x : UInt8) (j : Nat) : List UInt8 := (r.take j).map (fun y => bm y x) ++ r.drop j
theorem scaleP_length (r : List UInt8) (x : UInt8) (j : Nat) : (scaleP r x j).length = r.length := by
  simp [scaleP]; omega
theorem scaleP_get (r : List UInt8) (x y : UInt8) (j : Nat) (h : r[j]? = some y) : (scaleP r x j)[j]? = some y := by
  have hj := (List.getElem?_eq_some_iff.1 h).1
  unfold scaleP
  rw [List.getElem?_append_right (by simp; omega), List.getElem?_drop, List.length_map, List.length_take, show j + (j - min j r.length) = j by omega]
  exact h
theorem scaleP_step (r : List UInt8) (x y : UInt8) (j : Nat) (h : r[j]? = some y) : (scaleP r x j).set j (bm y x) = scaleP r x (j + 1) := by
  have hj := (List.getElem?_eq_some_iff.1 h).1
  have hy := (List.getElem?_eq_some_iff.1 h).2
  unfold scaleP
  rw [List.set_append_right _ _ (by simp; omega), List.length_map, List.length_take, show j - min j r.length = 0 by omega, List.drop_eq_getElem_cons hj, List.set_cons_zero, List.take_succ_eq_append_getElem hj, hy]
  simp
theorem scaleP_done (r : List UInt8) (x : UInt8) : scaleP r x r.length = scaleR r x := by simp [scaleP, scaleR]
def ScRel (w : World) (lo hi g n c i b c0 m : Nat) (M : Mtx) (r : List UInt8) (x : UInt8) (j : Nat) (wr : World) : Prop :=
  MatO wr lo hi (.slice (some ⟨g, 0, none⟩) n c) (M.set i (scaleP r x j)) ∧ Out lo hi w wr ∧ wr.cell? ⟨g, i, none⟩ = some (.slice (some ⟨b, 0, none⟩) m c0)
theorem ScRel.drewN {w wr : World} {lo hi g n c i b c0 m j : Nat} {M : Mtx} {r : List UInt8} {x : UInt8} (h : ScRel w lo hi g n c i b c0 m M r x j wr) (q : Nat) : ScRel w lo hi g n c i b c0 m M r x j (wr.drewN q) := ⟨h.1.drewN q, h.2.1.drewN q, h.2.2⟩
theorem sc_facts {w wr : World} {lo hi g n c i b c0 m j : Nat} {M : Mtx} {r : List UInt8} {x y : UInt8} (h : ScRel w lo hi g n c i b c0 m M r x j wr) (hi' : i < M.length) (hy : r[j]? = some y) :
    wr.cell? ⟨b, j, none⟩ = some (.int .u8 (y.toNat : Int)) ∧ wr.frozen? ⟨b, j, none⟩ = false ∧ b ≠ g ∧ ScRel w lo hi g n c i b c0 m M r x (j + 1) (wr.setCell ⟨b, j, none⟩ (.int .u8 ((bm y x).toNat : Int))) := by
  obtain ⟨h1, h2, h3⟩ := h
  obtain ⟨b', c', hr, hset⟩ := h1.row (i := i) (l := scaleP r x j) (List.getElem?_set_self hi')
  have e := hr.head
  rw [h3] at e
  have hb : b' = b := by
    have := (Value.slice.inj (Option.some.inj e)).1
    simpa using this.symm
  subst hb
  refine ⟨hr.cells j y (scaleP_get r x y j hy), hr.free j, hr.ne, ?_, h2.set hr.low hr.high _, ?_⟩
  · have := hset j (bm y x)
    rw [List.set_set, scaleP_step r x y j hy] at this
    exact this
  · exact (World.cell?_of_block (w := wr) (Below.heap_setCell _ _ _ _ fun e => hr.ne e.symm)).trans h3
set_option maxHeartbeats 1600000 in
theorem scale_any (g n c i : Nat) (u : Value) (x : UInt8) (M : Mtx) (lo hi : Nat) (w : World) (h : MatO w lo hi (.slice (some ⟨g, 0, none⟩) n c) M) (hn : n = M.length) (hi' : i < n) (hn2 : n ≤ 255) (hr2 : (M.getD i []).length ≤ 255) :
    Calls Try.prog 65 #[.slice (some ⟨g, 0, none⟩) n c, .int .i64 (i : Int), u, .int .u8 (x.toNat : Int)] w (OpPost w lo hi (.slice (some ⟨g, 0, none⟩) n c) (scaleM M i x)) := by
  obtain ⟨r, hr⟩ : ∃ r, M[i]? = some r := ⟨_, List.getElem?_eq_getElem (by omega)⟩
  have hg := getD_of hr
  obtain ⟨b, c0, hrow, _⟩ := h.row hr
  have q0 := hrow.head
  have q1 := hrow.cap
  obtain ⟨m, hm⟩ : ∃ m, m = r.length := ⟨_, rfl⟩
  have Hst : Hid (ScRel w lo hi g n c i b c0 m M r x 0 w) := by
    refine ⟨?_, Out.refl _ _ _, by rw [hm]; exact q0⟩
    have e1 : M.set i (scaleP r x 0) = M := by
      have : scaleP r x 0 = r := by simp [scaleP]
      rw [this]
      apply List.ext_getElem?
      intro k
      rw [List.getElem?_set]
      by_cases e : i = k
      · subst e; rw [if_pos rfl, if_pos (by omega), hr]
      · rw [if_neg e]
    rw [e1]
    exact h
  have Hm : Hid (m = r.length ∧ i < M.length ∧ M.set i (scaleP r x m) = scaleM M i x) := ⟨hm, by omega, by unfold scaleM; rw [hg, hm, scaleP_done]⟩
  have hml : (m : Int) ≤ 255 := by rw [hm, ← hg]; omega
  have hi1 : (i : Int) < (n : Int) := by omega
  rw [← hm] at q0 q1
  have q1' : (m : Int) ≤ (c0 : Int) := by omega
  clear h hn hi' hn2 hr2 hr hg hrow hm
  go_enter Try.func65, Try.ntmps65
  go_wp2_with fail
  go_loopw [8, 9, 15] (fun _ _ jv wr => ∃ j : Nat, jv = .int .i64 (j : Int) ∧ j ≤ m ∧ Hid (ScRel w lo hi g n c i b c0 m M r x j wr)) (fun _ _ jv _ => m - (intOf jv).toNat)
  case atStart => exact ⟨0, rfl, Nat.zero_le _, Hst.out⟩
  case round =>
    obtain ⟨j, rfl, hj, hrel⟩ := hrel
    by_cases hlt : j < m
    · obtain ⟨y, hy⟩ : ∃ y, r[j]? = some y := ⟨_, List.getElem?_eq_getElem (by rw [← Hm.out.1]; exact hlt)⟩
      obtain ⟨k1, k2, k3, k4⟩ := sc_facts hrel.out Hm.out.2.1 hy
      have k5 := hrel.out.2.2
      have Hn := Lib.hid k4
      have HM : Hid (∀ W, Calls Try.prog 69 #[.int .u8 (y.toNat : Int), .int .u8 (x.toNat : Int)] W fun e w' => e = .returned (.int .u8 ((bm y x).toNat : Int)) ∧ w' = W) := fun W => by
        have := mul_any y.toNat x.toNat W (u8_lt y) (u8_lt x)
        rw [← bm_nat] at this
        exact this.mono fun _ _ ⟨a, b⟩ => ⟨a, b.symm⟩
      have hlt' : (j : Int) < (m : Int) := by omega
      generalize (bm y x).toNat = z at *
      generalize y.toNat = yn at *
      generalize x.toNat = xn at *
      clear hy k4 hrel hlt
      go_wp2_with fail
      refine wp_region_still_tail 9 (by kernel_rfl) (by kernel_rfl) ?_
      simp only [List.take_succ_cons, List.take_zero, List.drop_succ_cons, List.drop_zero]
      repeat (first | still_step | still_call (HM.out _))
      try refine wpStill_nil ?_
      change wpList _ _ _ _ _ wr.drew
      go_wp2_with fail
      go_roundw
      case rel => exact ⟨j + 1, by go_num, by omega, Hn.out.drewN 1⟩
      case measure => simp [intOf]; omega
    · obtain rfl : j = m := by omega
      have Hd : Hid (MatO wr lo hi (.slice (some ⟨g, 0, none⟩) n c) (scaleM M i x) ∧ Out lo hi w wr) := by
        obtain ⟨h1, h2, _⟩ := hrel.out
        rw [Hm.out.2.2] at h1
        exact ⟨h1, h2⟩
      clear hlt hrel
      go_wp2_with fail
      go_end0
      exact ⟨rfl, Hd.out.1, Hd.out.2⟩

/-- the first j elements added to -/
def addP (r o : List UInt8) (x : UInt8) (j : Nat) : List UInt8 := List.zipWith (fun a b => a ^^^ bm b x) (r.take j) (o.take j) ++ r.drop j
theorem addP_length (r o : List UInt8) (x : UInt8) (j : Nat) (h : r.length = o.length) : (addP r o x j).length = r.length := by
  simp [addP, h]; omega
theorem addP_get (r o : List UInt8) (x y : UInt8) (j : Nat) (h : r.length = o.length) (hy : r[j]? = some y) : (addP r o x j)[j]? = some y := by
  have hj := (List.getElem?_eq_some_iff.1 hy).1
  unfold addP
  have hl : (List.zipWith (fun a b => a ^^^ bm b x) (r.take j) (o.take j)).length = j := by simp; omega
  rw [List.getElem?_append_right (by omega), hl, Nat.sub_self, List.getElem?_drop, Nat.add_zero]
  exact hy
theorem addP_step (r o : List UInt8) (x y z : UInt8) (j : Nat) (h : r.length = o.length) (hy : r[j]? = some y) (hz : o[j]? = some z) : (addP r o x j).set j (y ^^^ bm z x) = addP r o x (j + 1) := by
  have hj := (List.getElem?_eq_some_iff.1 hy).1
  have hj2 := (List.getElem?_eq_some_iff.1 hz).1
  have ey := (List.getElem?_eq_some_iff.1 hy).2
  have ez := (List.getElem?_eq_some_iff.1 hz).2
  unfold addP
  have hl : (List.zipWith (fun a b => a ^^^ bm b x) (r.take j) (o.take j)).length = j := by simp; omega
  rw [List.set_append_right _ _ (by omega), hl, Nat.sub_self, List.drop_eq_getElem_cons hj, List.set_cons_zero, List.take_succ_eq_append_getElem hj, List.take_succ_eq_append_getElem hj2, ey, ez,
    List.zipWith_append (by simp; omega)]
  simp
theorem addP_done (r o : List UInt8) (x : UInt8) (h : r.length = o.length) : addP r o x r.length = addR r o x := by
  unfold addP addR
  rw [List.take_length, h, List.take_length, List.drop_eq_nil_of_le (by omega), List.append_nil]
def AdRel (w : World) (lo hi g n c p i b c0 b1 c1 m : Nat) (M : Mtx) (r o : List UInt8) (x : UInt8) (j : Nat) (wr : World) : Prop :=
  MatO wr lo hi (.slice (some ⟨g, 0, none⟩) n c) (M.set p (addP r o x j)) ∧ Out lo hi w wr ∧ wr.cell? ⟨g, p, none⟩ = some (.slice (some ⟨b, 0, none⟩) m c0) ∧ wr.cell? ⟨g, i, none⟩ = some (.slice (some ⟨b1, 0, none⟩) m c1)
theorem AdRel.drewN {w wr : World} {lo hi g n c p i b c0 b1 c1 m j : Nat} {M : Mtx} {r o : List UInt8} {x : UInt8} (h : AdRel w lo hi g n c p i b c0 b1 c1 m M r o x j wr) (q : Nat) : AdRel w lo hi g n c p i b c0 b1 c1 m M r o x j (wr.drewN q) := ⟨h.1.drewN q, h.2.1.drewN q, h.2.2⟩
theorem ad_facts {w wr : World} {lo hi g n c p i b c0 b1 c1 m j : Nat} {M : Mtx} {r o : List UInt8} {x y z : UInt8} (h : AdRel w lo hi g n c p i b c0 b1 c1 m M r o x j wr) (hp : p < M.length) (hip : p ≠ i) (ho : M[i]? = some o) (hl : r.length = o.length) (hy : r[j]? = some y) (hz : o[j]? = some z) :
    wr.cell? ⟨b, j, none⟩ = some (.int .u8 (y.toNat : Int)) ∧ wr.cell? ⟨b1, j, none⟩ = some (.int .u8 (z.toNat : Int)) ∧ wr.frozen? ⟨b, j, none⟩ = false ∧ b ≠ g ∧ AdRel w lo hi g n c p i b c0 b1 c1 m M r o x (j + 1) (wr.setCell ⟨b, j, none⟩ (.int .u8 ((y ^^^ bm z x).toNat : Int))) := by
  obtain ⟨h1, h2, h3, h4⟩ := h
  obtain ⟨b', c', hr, hset⟩ := h1.row (i := p) (l := addP r o x j) (List.getElem?_set_self hp)
  obtain ⟨b1', c1', hr1, _⟩ := h1.row (i := i) (l := o) (by rw [List.getElem?_set_ne hip]; exact ho)
  have e := hr.head
  rw [h3] at e
  have hb : b' = b := by
    have := (Value.slice.inj (Option.some.inj e)).1
    simpa using this.symm
  have e1 := hr1.head
  rw [h4] at e1
  have hb1 : b1' = b1 := by
    have := (Value.slice.inj (Option.some.inj e1)).1
    simpa using this.symm
  subst hb
  subst hb1
  refine ⟨hr.cells j y (addP_get r o x y j hl hy), hr1.cells j z hz, hr.free j, hr.ne, ?_, h2.set hr.low hr.high _, ?_, ?_⟩
  · have := hset j (y ^^^ bm z x)
    rw [List.set_set, addP_step r o x y z j hl hy hz] at this
    exact this
  · exact (World.cell?_of_block (w := wr) (Below.heap_setCell _ _ _ _ fun e => hr.ne e.symm)).trans h3
  · exact (World.cell?_of_block (w := wr) (Below.heap_setCell _ _ _ _ fun e => hr.ne e.symm)).trans h4
set_option maxHeartbeats 1600000 in
theorem addrow_any (g n c p i : Nat) (x : UInt8) (M : Mtx) (lo hi : Nat) (w : World) (h : MatO w lo hi (.slice (some ⟨g, 0, none⟩) n c) M) (hn : n = M.length) (hp : p < n) (hi' : i < n) (hip : p ≠ i) (hn2 : n ≤ 255) (hr2 : (M.getD i []).length ≤ 255) (hrr : (M.getD p []).length = (M.getD i []).length) :
    Calls Try.prog 66 #[.slice (some ⟨g, 0, none⟩) n c, .int .i64 (p : Int), .int .i64 (i : Int), .int .u8 (x.toNat : Int)] w (OpPost w lo hi (.slice (some ⟨g, 0, none⟩) n c) (addM M p i x)) := by
  obtain ⟨r, hr⟩ : ∃ r, M[p]? = some r := ⟨_, List.getElem?_eq_getElem (by omega)⟩
  obtain ⟨o, ho⟩ : ∃ o, M[i]? = some o := ⟨_, List.getElem?_eq_getElem (by omega)⟩
  have hg := getD_of hr
  have hgo := getD_of ho
  obtain ⟨b, c0, hrow, _⟩ := h.row hr
  obtain ⟨b1, c1, hrow1, _⟩ := h.row ho
  have q0 := hrow.head
  have q1 := hrow.cap
  have q2 := hrow1.head
  have q3 := hrow1.cap
  rw [hg, hgo] at hrr
  obtain ⟨m, hm⟩ : ∃ m, m = r.length := ⟨_, rfl⟩
  rw [← hrr, ← hm] at q2 q3
  rw [← hm] at q0 q1
  have Hst : Hid (AdRel w lo hi g n c p i b c0 b1 c1 m M r o x 0 w) := by
    refine ⟨?_, Out.refl _ _ _, q0, q2⟩
    have e1 : M.set p (addP r o x 0) = M := by
      have : addP r o x 0 = r := by simp [addP]
      rw [this]
      apply List.ext_getElem?
      intro k
      rw [List.getElem?_set]
      by_cases e : p = k
      · subst e; rw [if_pos rfl, if_pos (by omega), hr]
      · rw [if_neg e]
    rw [e1]
    exact h
  have Hm : Hid (m = r.length ∧ p < M.length ∧ p ≠ i ∧ M[i]? = some o ∧ r.length = o.length ∧ M.set p (addP r o x m) = addM M p i x) := ⟨hm, by omega, hip, ho, hrr, by unfold addM; rw [hg, hgo, hm, addP_done r o x hrr]⟩
  have hml : (m : Int) ≤ 255 := by rw [hm, hrr, ← hgo]; omega
  have hi1 : (i : Int) < (n : Int) := by omega
  have hp1 : (p : Int) < (n : Int) := by omega
  have q1' : (m : Int) ≤ (c0 : Int) := by omega
  have q3' : (m : Int) ≤ (c1 : Int) := by omega
  clear h hn hi' hp hip hn2 hr2 hr ho hg hgo hrow hrow1 hrr hm q0
  go_enter Try.func66, Try.ntmps66
  go_wp2_with fail
  clear q2
  go_loopw [8, 9, 15] (fun _ _ jv wr => ∃ j : Nat, jv = .int .i64 (j : Int) ∧ j ≤ m ∧ Hid (AdRel w lo hi g n c p i b c0 b1 c1 m M r o x j wr)) (fun _ _ jv _ => m - (intOf jv).toNat)
  case atStart => exact ⟨0, rfl, Nat.zero_le _, Hst.out⟩
  case round =>
    obtain ⟨j, rfl, hj, hrel⟩ := hrel
    by_cases hlt : j < m
    · obtain ⟨y, hy⟩ : ∃ y, r[j]? = some y := ⟨_, List.getElem?_eq_getElem (by rw [← Hm.out.1]; exact hlt)⟩
      obtain ⟨z, hz⟩ : ∃ z, o[j]? = some z := ⟨_, List.getElem?_eq_getElem (by rw [← Hm.out.2.2.2.2.1, ← Hm.out.1]; exact hlt)⟩
      obtain ⟨k1, k2, k3, k4, k5⟩ := ad_facts hrel.out Hm.out.2.1 Hm.out.2.2.1 Hm.out.2.2.2.1 Hm.out.2.2.2.2.1 hy hz
      have k6 := hrel.out.2.2.1
      have Hn := Lib.hid k5
      have HM : Hid (∀ W, Calls Try.prog 69 #[.int .u8 (z.toNat : Int), .int .u8 (x.toNat : Int)] W fun e w' => e = .returned (.int .u8 ((bm z x).toNat : Int)) ∧ w' = W) := fun W => by
        have := mul_any z.toNat x.toNat W (u8_lt z) (u8_lt x)
        rw [← bm_nat] at this
        exact this.mono fun _ _ ⟨a, b⟩ => ⟨a, b.symm⟩
      have HA : Hid (∀ W, Calls Try.prog 58 #[.int .u8 (y.toNat : Int), .int .u8 ((bm z x).toNat : Int)] W fun e w' => e = .returned (.int .u8 ((y ^^^ bm z x).toNat : Int)) ∧ w' = W) := fun W => by
        have := add_any y.toNat (bm z x).toNat W (u8_lt y) (u8_lt _)
        rw [← bx_nat] at this
        exact this.mono fun _ _ ⟨a, b⟩ => ⟨a, b.symm⟩
      have hlt' : (j : Int) < (m : Int) := by omega
      generalize (y ^^^ bm z x).toNat = s2 at *
      generalize (bm z x).toNat = zx at *
      generalize y.toNat = yn at *
      generalize z.toNat = zn at *
      generalize x.toNat = xn at *
      clear hy hz k5 hrel hlt
      go_wp2_with fail
      refine wp_region_still_tail 17 (by kernel_rfl) (by kernel_rfl) ?_
      simp only [List.take_succ_cons, List.take_zero, List.drop_succ_cons, List.drop_zero]
      repeat (first | still_step | still_call (HM.out _) | still_call (HA.out _))
      try refine wpStill_nil ?_
      change wpList _ _ _ _ _ wr.drew
      go_wp2_with fail
      go_roundw
      case rel => exact ⟨j + 1, by go_num, by omega, Hn.out.drewN 1⟩
      case measure => simp [intOf]; omega
    · obtain rfl : j = m := by omega
      have Hd : Hid (MatO wr lo hi (.slice (some ⟨g, 0, none⟩) n c) (addM M p i x) ∧ Out lo hi w wr) := by
        obtain ⟨h1, h2, _⟩ := hrel.out
        rw [Hm.out.2.2.2.2.2] at h1
        exact ⟨h1, h2⟩
      clear hlt hrel
      go_wp2_with fail
      go_end0
      exact ⟨rfl, Hd.out.1, Hd.out.2⟩
end Go.Proofs.Ytonihcgjepfpkaa

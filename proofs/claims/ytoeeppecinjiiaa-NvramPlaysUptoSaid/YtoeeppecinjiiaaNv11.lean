/-
  The law's device in memory; what it tells and how it is cut.
-/
import Derived.Test.YtoeeppecinjiiaaNv10
import Derived.Laws.OwnMore
namespace Go.Proofs.Ytoeeppecinjiiaa
open Go.RowKit

def rowsOf : List (Nat × UInt8) → List Value
  | [] => []
  | p :: t => .int .i64 (p.1 : Int) :: .int .u8 (p.2.toNat : Int) :: rowsOf t
theorem rowsOf_length : ∀ L : List (Nat × UInt8), (rowsOf L).length = L.length * 2
  | [] => rfl
  | p :: t => by simp only [rowsOf, List.length_cons, rowsOf_length t]; omega
theorem rowsOf_append : ∀ L M : List (Nat × UInt8), rowsOf (L ++ M) = rowsOf L ++ rowsOf M
  | [], M => rfl
  | p :: t, M => by simp only [List.cons_append, rowsOf, rowsOf_append t M]
theorem rowsOf_get : ∀ (L : List (Nat × UInt8)) (k : Nat) (p : Nat × UInt8), L[k]? = some p → (rowsOf L)[k * 2]? = some (.int .i64 (p.1 : Int)) ∧ (rowsOf L)[k * 2 + 1]? = some (.int .u8 (p.2.toNat : Int))
  | [], k, p, h => by simp at h
  | q :: t, 0, p, h => by simp at h; subst h; exact ⟨rfl, rfl⟩
  | q :: t, k + 1, p, h => by
    obtain ⟨h1, h2⟩ := rowsOf_get t k p (by simpa using h)
    rw [show (k + 1) * 2 = k * 2 + 1 + 1 by omega]
    exact ⟨by simpa [rowsOf] using h1, by simpa [rowsOf] using h2⟩

structure RefAt (w : World) (Q : Nat → Option Tag) (rd : Nat) (R : Ref) : Prop where
  fresh : ∀ b, Q b ≠ none → b < w.heap.size
  cells : ∃ kv lv, Cells w rd 48 [kv, lv] ∧ Q rd = some .nv ∧ Own w 0 kv R.kept ∧ (∀ g, kv.ownBlock = some g → Q g = some .bytes) ∧ w.ownsRow 0 54 2 lv R.l.length (rowsOf R.l) ∧ ∀ g, lv.ownBlock = some g → Q g = some .undos
  low : 1 ≤ R.kept.length
  high : R.kept.length ≤ 67108864
  places : ∀ p ∈ R.l, p.1 < R.kept.length
def RefPost (w : World) (Q : Nat → Option Tag) (rd : Nat) (R' : Ref) (v : Value) (e : Ending) (w' : World) : Prop := ∃ Q', e = .returned v ∧ RefAt w' Q' rd R' ∧ Ext w Q w' Q'
def TellPost (w : World) (l : List UInt8) (e : Ending) (w' : World) : Prop := ∃ v, e = .returned v ∧ Own w' w.heap.size v l ∧ Below w.heap.size w w'
theorem ownsRow_move {w w' : World} {base : Nat} {e : TypeId} {size n : Nat} {v : Value} {xs : List Value} (h : w.ownsRow base e size v n xs) (hk : ∀ g, v.ownBlock = some g → w'.heap[g]? = w.heap[g]?) : w'.ownsRow base e size v n xs := by
  refine ⟨h.1, ?_⟩
  rcases h.2 with h | ⟨g, cap, cur, hv, hg, hh, r⟩
  · exact .inl h
  · exact .inr ⟨g, cap, cur, hv, hg, (hk g (by rw [hv]; rfl)).trans hh, r⟩
/-- a row of two cells each, and where they lie -/
theorem ownsRow_rd {w : World} {base : Nat} {e : TypeId} {n : Nat} {v : Value} {xs : List Value} (h : w.ownsRow base e 2 v n xs) : ∃ A c, v = .slice A n c ∧ n ≤ c ∧ c ≤ 9223372036854775807 ∧ ∀ i u, xs[i]? = some u → ∃ b, A = some ⟨b, 0, none⟩ ∧ b < w.heap.size ∧ w.cell? ⟨b, i, none⟩ = some u := by
  rcases h.2 with ⟨rfl, h0⟩ | ⟨g, cap, cur, rfl, hb, hg, hn, hm, hs, ht⟩
  · subst h0
    have : xs = [] := List.eq_nil_of_length_eq_zero (by simpa using h.1)
    subst this
    exact ⟨none, 0, rfl, Nat.le_refl _, by omega, fun i u hu => by simp at hu⟩
  · refine ⟨_, cap, rfl, hn, by simp only [maxLen] at hm; omega, fun k x hx => ⟨g, rfl, (Array.getElem?_eq_some_iff.1 hg).1, ?_⟩⟩
    have := World.ownsRow.cells (e := e) (size := 2) h rfl k x hx
    rw [add_flat, Nat.zero_add] at this
    exact this
section
variable {w w' : World} {Q : Nat → Option Tag} {rd : Nat} {R : Ref}
theorem RefAt.kept_ (h : RefAt w Q rd R) (hk : Kept (fun b => Q b ≠ none) w w') : RefAt w' Q rd R := by
  obtain ⟨kv, lv, c, t, k1, k2, l1, l2⟩ := h.cells
  have hb : ∀ b x, Q b = some x → w'.heap[b]? = w.heap[b]? := fun b x hx => hk.block b (h.fresh b (by rw [hx]; simp)) (by show Q b ≠ none; rw [hx]; simp)
  exact ⟨fun b hb => Nat.lt_of_lt_of_le (h.fresh b hb) hk.size, ⟨kv, lv, c.move (hb rd _ t), t, Own.move k1 fun g hg => hb g _ (k2 g hg), k2, ownsRow_move l1 fun g hg => hb g _ (l2 g hg), l2⟩, h.low, h.high, h.places⟩
theorem Own.set_ {w : World} {base g n c : Nat} {l : List UInt8} (h : Own w base (.slice (some ⟨g, 0, none⟩) n c) l) (hn : n = l.length) (i : Nat) (x : UInt8) : Own (w.setCell ⟨g, i, none⟩ (.int .u8 (x.toNat : Int))) base (.slice (some ⟨g, 0, none⟩) n c) (l.set i x) := by
  subst hn
  have := (World.ownsRow.stored h i (.int .u8 (x.toNat : Int))).1
  unfold Own
  rw [List.length_set]
  have e : bvs (l.set i x) = (bvs l).set i (.int .u8 (x.toNat : Int)) := by
    unfold bvs
    rw [List.map_set]
    rfl
  rw [e]
  exact this
end

section
set_option maxRecDepth 20000
set_option maxHeartbeats 2000000
theorem fits_any (rd : Nat) (R : Ref) (Q : Nat → Option Tag) (at_ n : Int) (w : World) (h : RefAt w Q rd R) :
    Calls Try.prog 10 #[.pointer (some ⟨rd, 0, none⟩), .int .i64 at_, .int .i64 n] w fun e w' => e = .returned (.bool (hasB R.kept.length at_ n)) ∧ w = w' := by
  obtain ⟨kv, lv, c, t, k1, k2, l1, l2⟩ := h.cells
  obtain ⟨A, ck, rfl, _, _, _⟩ := Own.rb k1
  have c0 := c.cell (i := 0) rfl
  have hN' : (R.kept.length : Int) ≤ 67108864 := by have := h.high; omega
  clear h c k1 k2 l1 l2
  generalize R.kept.length = N at *
  by_cases h0 : 0 ≤ at_
  case neg =>
    have e : hasB N at_ n = false := decide_eq_false (fun q => h0 q.1)
    rw [e]
    have h0' : at_ < 0 := by omega
    clear h0 e
    go_enter Try.func10, Try.ntmps10
    go_wp2_with fail
    go_ret
    exact ⟨rfl, rfl⟩
  by_cases h1 : 0 ≤ n
  case neg =>
    have e : hasB N at_ n = false := decide_eq_false (fun q => h1 q.2.1)
    rw [e]
    have h1' : n < 0 := by omega
    clear h1 e
    go_enter Try.func10, Try.ntmps10
    go_wp2_with fail
    go_ret
    exact ⟨rfl, rfl⟩
  by_cases h3 : at_ ≤ (N : Int)
  case neg =>
    have e : hasB N at_ n = false := decide_eq_false (fun q => by omega)
    rw [e]
    have h3' : (N : Int) < at_ := by omega
    clear h3 e
    go_enter Try.func10, Try.ntmps10
    go_wp2_with fail
    go_ret
    exact ⟨rfl, rfl⟩
  have hw : IntKind.i64.wrap ((N : Int) - at_) = (N : Int) - at_ := IntWalk.i64_in _ (by omega)
  by_cases h2 : n ≤ (N : Int) - at_
  · have e : hasB N at_ n = true := decide_eq_true ⟨h0, h1, h2⟩
    rw [e]
    clear e
    go_enter Try.func10, Try.ntmps10
    go_wp2_with fail
    go_ret
    exact ⟨by simp [h2], rfl⟩
  · have e : hasB N at_ n = false := decide_eq_false (fun q => h2 q.2.2)
    rw [e]
    have h2' : (N : Int) - at_ < n := by omega
    clear e h2
    go_enter Try.func10, Try.ntmps10
    go_wp2_with fail
    go_ret
    exact ⟨by simp [h2'], rfl⟩

theorem now_any (rd n : Nat) (R : Ref) (Q : Nat → Option Tag) (w : World) (h : RefAt w Q rd R) (hn : n ≤ R.l.length) (hl : R.l.length ≤ 1099511627776) :
    Calls Try.prog 25 #[.pointer (some ⟨rd, 0, none⟩), .int .i64 (n : Int)] w (TellPost w (R.now n)) := by
  obtain ⟨kv, lv, c, t, k1, k2, l1, l2⟩ := h.cells
  obtain ⟨A, ck, rfl, hck, hr, _⟩ := Own.rb k1
  have c0 := c.cell (i := 0) rfl
  have c1 := c.cell (i := 1) rfl
  obtain ⟨Al, cl, rfl, hcl, hcm, hrow⟩ := ownsRow_rd l1
  have Hr := Lib.hid hr
  have Hlen : Hid (R.kept.length ≤ 67108864) := h.high
  have hrdl := c.lt
  have Hk0 : Hid (∀ k p, R.l[k]? = some p → p.1 < R.kept.length ∧ ∃ b, Al = some ⟨b, 0, none⟩ ∧ b < w.heap.size ∧ w.cell? ⟨b, k * 2, none⟩ = some (.int .i64 (p.1 : Int)) ∧ w.cell? ⟨b, k * 2 + 1, none⟩ = some (.int .u8 (p.2.toNat : Int))) := by
    intro k p hp
    obtain ⟨q1, q2⟩ := rowsOf_get _ _ _ hp
    obtain ⟨b, e, hb, r1⟩ := hrow _ _ q1
    obtain ⟨b2, e2, _, r2⟩ := hrow _ _ q2
    rw [e] at e2
    cases e2
    exact ⟨h.places p (List.mem_of_getElem? hp), b, e, hb, r1, r2⟩
  have Hform : Hid (∀ v1 w1, Own w1 w.heap.size v1 R.kept → ∃ g cap, v1 = .slice (some ⟨g, 0, none⟩) R.kept.length cap ∧ w.heap.size ≤ g ∧ R.kept.length ≤ cap ∧ cap ≤ 9223372036854775807) := by
    intro v1 w1 ho
    obtain ⟨g, cap, e, q1, _, q2, _⟩ := Own.form ho h.low
    refine ⟨g, cap, e, q1, q2, ?_⟩
    rcases ho.2 with ⟨e0, _⟩ | ⟨g', cap', cur, e0, _, _, _, hm, _⟩
    · rw [e] at e0; cases e0
    · rw [e] at e0; cases e0; simp only [maxLen] at hm; omega
  have HNl : Hid (∀ k, (lay R.kept (R.l.take k)).length = R.kept.length) := fun k => lay_length _ _
  have Hsnoc : Hid (∀ k p, R.l[k]? = some p → lay R.kept (R.l.take (k + 1)) = (lay R.kept (R.l.take k)).set p.1 p.2) := fun k p hp => lay_snoc _ _ _ _ hp
  have Hlt : Hid (∀ k, k < n → ∃ p, R.l[k]? = some p) := fun k hk => ⟨_, List.getElem?_eq_getElem (by omega)⟩
  obtain ⟨N, hN⟩ : ∃ N, N = R.kept.length := ⟨_, rfl⟩
  obtain ⟨M, hM⟩ : ∃ M, M = R.l.length := ⟨_, rfl⟩
  have hN1 : (N : Int) ≤ 67108864 := by have := h.high; omega
  have hM1 : (M : Int) ≤ 1099511627776 := by omega
  have hnM : n ≤ M := by omega
  have Hap : Hid (∀ (A : Option Addr) (c : Nat), R.kept = R.kept) := fun _ _ => rfl
  unfold Ref.now
  rw [← hN] at c0 Hform Hk0 HNl Hlen
  rw [← hM] at c1
  have HN := Lib.hid hN
  clear h c t k1 k2 l1 l2 hck hr hcl hcm hrow hl hn hN hM
  go_enter Try.func25, Try.ntmps25
  go_wp2_with (at_builtin; refine app_bytes rfl (.tmp 7) (.tmp 11) rfl w.heap.size _ [] rfl (Own.made w _ (Nat.le_refl _)) _ A N ck R.kept rfl HN.out (Hr.out.alloc (Nat.le_refl _) _) (by have := Hlen.out; have := HN.out; simp; omega) (by simp) ?_; intro v1 w1 hown1 hbel1 _)
  rw [List.nil_append] at hown1
  obtain ⟨g, cg, rfl, hg, hgc, hgm⟩ := Hform.out v1 w1 hown1
  have Hst : Hid (Own w1 w.heap.size (.slice (some ⟨g, 0, none⟩) N cg) (lay R.kept (R.l.take 0)) ∧ Below w.heap.size w w1) := ⟨hown1, ((Below.refl _ _).alloc (Nat.le_refl _) _).trans hbel1⟩
  clear hown1 hbel1
  go_loopw [6] (fun iv wr => ∃ k : Nat, iv = .int .i64 (k : Int) ∧ k ≤ n ∧ Hid (Own wr w.heap.size (.slice (some ⟨g, 0, none⟩) N cg) (lay R.kept (R.l.take k)) ∧ Below w.heap.size w wr)) (fun iv _ => n - (intOf iv).toNat)
  case atStart => exact ⟨0, rfl, Nat.zero_le _, Hst.out⟩
  case round =>
    obtain ⟨k, rfl, hk, hrel⟩ := hrel
    obtain ⟨ho, hb⟩ := hrel.out
    by_cases hlt : k < n
    case neg =>
      obtain rfl : k = n := by omega
      have Hfin : Hid (TellPost w (lay R.kept (R.l.take k)) (.returned (.slice (some ⟨g, 0, none⟩) N cg)) wr) := ⟨_, rfl, ho, hb⟩
      clear hlt ho hb
      go_wp2_with fail
      go_ret
      exact Hfin.out
    obtain ⟨p, hp⟩ := Hlt.out k hlt
    obtain ⟨hpl, b, rfl, hbl, r1, r2⟩ := Hk0.out k p hp
    have d1 := (hb.cell (p := ⟨rd, 1, none⟩) hrdl).trans c1
    have s1 := (hb.cell (p := ⟨b, k * 2, none⟩) hbl).trans r1
    have s2 := (hb.cell (p := ⟨b, k * 2 + 1, none⟩) hbl).trans r2
    have hlen := HNl.out k
    have hcg : ∃ u, wr.cell? ⟨g, p.1, none⟩ = some u := by
      have := World.ownsRow.cellAt (w := wr) (base := w.heap.size) (e := 5) (size := 1) (g := g) (n := N) (cap := cg) (xs := bvs (lay R.kept (R.l.take k))) (by have := ho; unfold Own at this; rw [hlen] at this; exact this) p.1 (by omega)
      exact ⟨_, this.trans (List.getElem?_eq_getElem (by rw [bvs_length]; omega))⟩
    obtain ⟨ug, hcg⟩ := hcg
    have hfg : wr.frozen? ⟨g, p.1, none⟩ = false := World.ownsRow.frozenAt (w := wr) (base := w.heap.size) (e := 5) (size := 1) (n := N) (cap := cg) (xs := bvs (lay R.kept (R.l.take k))) (by have := ho; unfold Own at this; rw [hlen] at this; exact this) p.1
    have Hstep : Hid (∀ q, Own ((wr.setCell ⟨g, p.1, none⟩ (.int .u8 (p.2.toNat : Int))).drewN q) w.heap.size (.slice (some ⟨g, 0, none⟩) N cg) (lay R.kept (R.l.take (k + 1))) ∧ Below w.heap.size w ((wr.setCell ⟨g, p.1, none⟩ (.int .u8 (p.2.toNat : Int))).drewN q)) := by
      intro q
      rw [Hsnoc.out k p hp]
      have q9 := hb.setCell (p := ⟨g, p.1, none⟩) hg (.int .u8 (p.2.toNat : Int))
      exact ⟨Own.set_ ho hlen.symm _ _, ⟨q9.os, q9.tape, q9.output, q9.size, q9.block⟩⟩
    have hp1 : p.1 < N := hpl
    have hp1' : (p.1 : Int) < (N : Int) := by omega
    have hk' : (k : Int) < (n : Int) := by omega
    have hkM : k < M := by omega
    have hkM' : (k : Int) < (M : Int) := by omega
    have hgrd : g ≠ rd := by omega
    have hgb : g ≠ b := by omega
    generalize p.1 = a at *
    generalize p.2.toNat = y at *
    clear ho hb hlen hp hpl r1 r2
    go_wp2_with fail
    go_region
    all_goals
      go_wp2_with fail
      go_roundw
      case rel => exact ⟨k + 1, by go_num, by omega, Hstep.out _⟩
      case measure => simp [intOf]; omega
end
end Go.Proofs.Ytoeeppecinjiiaa

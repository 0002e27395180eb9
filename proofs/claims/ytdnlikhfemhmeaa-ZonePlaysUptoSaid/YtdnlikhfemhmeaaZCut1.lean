/-
  A pile that is cut.
-/
import Derived.Test.YtdnlikhfemhmeaaZAdd
import Derived.Lib.SliceRun
namespace Go.Proofs.Ytdnlikhfemhmeaa
open Go.RowKit

theorem Cells.setCells {t : TypeId} (b : Nat) : ∀ (vs : List Value) (o : Nat) (w : World) (cs : List Value), Cells w b t cs →
    ∃ cs', Cells (w.setCells b o vs) b t cs' ∧ cs'.length = cs.length ∧ cs'.take o = cs.take o
  | [], _, _, cs, h => ⟨cs, h, rfl, rfl⟩
  | v :: r, o, w, cs, h => by
    obtain ⟨cs', h1, h2, h3⟩ := Cells.setCells b r (o + 1) _ _ (h.set o v)
    refine ⟨cs', h1, by simpa using h2, ?_⟩
    have := congrArg (List.take o) h3
    rw [List.take_take, List.take_take, show min o (o + 1) = o by omega, List.take_set_of_le (Nat.le_refl _)] at this
    exact this
theorem setCells_other (b : Nat) (k : Nat) (hk : k ≠ b) : ∀ (vs : List Value) (o : Nat) (w : World), (w.setCells b o vs).heap[k]? = w.heap[k]?
  | [], _, _ => rfl
  | v :: r, o, w => (setCells_other b k hk r (o + 1) _).trans (Below.heap_setCell _ _ _ _ hk)
theorem setCells_size (b : Nat) : ∀ (vs : List Value) (o : Nat) (w : World), (w.setCells b o vs).heap.size = w.heap.size
  | [], _, _ => rfl
  | v :: r, o, w => (setCells_size b r (o + 1) _).trans (by simp [World.setCell])
theorem setCells_rest (b : Nat) : ∀ (vs : List Value) (o : Nat) (w : World), (w.setCells b o vs).os = w.os ∧ (w.setCells b o vs).tape = w.tape ∧ (w.setCells b o vs).output = w.output
  | [], _, _ => ⟨rfl, rfl, rfl⟩
  | v :: r, o, w => setCells_rest b r (o + 1) (w.setCell ⟨b, o, none⟩ v)
theorem Kept.setCells {K : Nat → Prop} {w w' : World} (h : Kept K w w') {b : Nat} (hb : ¬ K b) (o : Nat) (vs : List Value) : Kept K w (w'.setCells b o vs) :=
  h.trans ⟨(setCells_rest b vs o w').1, (setCells_rest b vs o w').2.1, (setCells_rest b vs o w').2.2, by rw [setCells_size]; exact Nat.le_refl _, fun k _ hk => setCells_other b k (fun e => hb (e ▸ hk)) vs o w'⟩

theorem setCells_drewN (b q : Nat) : ∀ (vs : List Value) (o : Nat) (w : World), (w.drewN q).setCells b o vs = (w.setCells b o vs).drewN q
  | [], _, _ => rfl
  | v :: r, o, w => setCells_drewN b q r (o + 1) (w.setCell ⟨b, o, none⟩ v)
theorem cut_world (w : World) (p p' : Addr) (v v' : Value) (b m q : Nat) (L : List Value) :
    ((((w.drewN (1 + q)).setCell p v).drew.setCells b m L).drew).setCell p' v' = (((w.setCell p v).setCells b m L).setCell p' v').drewN (1 + q + 1 + 1) := by
  have e : ((w.drewN (1 + q)).setCell p v).drew = (w.setCell p v).drewN (1 + q + 1) := rfl
  rw [e, setCells_drewN]
  rfl

theorem zero_bytes (w : World) : (zeroValue 46).run Try.prog w = .ok (.slice none 0 0) w := by kernel_rfl
/-- clear(x) of a row's cells -/
theorem clear_run (w : World) (ty : TypeId) (b o n c : Nat) (cs : List Value) (h : Cells w b 46 cs) (hn : o + n ≤ cs.length) :
    (Builtin.clear_ #[89] ty #[.slice (some ⟨b, o, none⟩) n c]).run Try.prog w = .ok (.tuple #[]) (w.setCells b o (List.replicate n (.slice none 0 0))) := by
  rcases Nat.eq_zero_or_pos n with rfl | hp
  · simp [Builtin.clear_, run_underlying Try.underlying89, World.setCells]
  · exact Lib.run_clear_slice w _ _ ty _ Try.underlying89 zero_bytes rfl rfl b o n c hp
      (fun j hj => by rw [h.cell (List.getElem?_eq_getElem (show o + j < cs.length by omega))]; rfl) (fun j _ => h.frozen _)

/-- what a cut leaves: in block g, at o, the row's first m pages, all firm -/
def CutPost (w : World) (g o b n c m : Nat) (cs cur : List Value) (e : Ending) (w' : World) : Prop :=
  e = .returned (.tuple #[]) ∧ Kept (fun x => x ≠ g ∧ x ≠ b) w w' ∧ Cells w' g 91 ((cs.set (o + 1) (.int .i64 (m : Int))).set o (.slice (some ⟨b, 0, none⟩) m c)) ∧
    ∃ cur', Cells w' b 46 cur' ∧ cur'.length = cur.length ∧ cur'.take m = cur.take m

theorem cut_fin {w : World} {g o b n c m : Nat} {cs cur : List Value} (q : Nat) (hgb : g ≠ b) (hcs : Cells w g 91 cs) (hcur : Cells w b 46 cur) (L : List Value) :
    CutPost w g o b n c m cs cur (.returned (.tuple #[])) ((((w.setCell ⟨g, o + 1, none⟩ (.int .i64 (m : Int))).setCells b m L).setCell ⟨g, o, none⟩ (.slice (some ⟨b, 0, none⟩) m c)).drewN q) := by
  refine ⟨rfl, ?_, ?_, ?_⟩
  · refine Kept.drewN (Kept.setCell (Kept.setCells (Kept.setCell (Kept.refl _ w) ?_ _) ?_ _ _) ?_ _) q
    · exact fun h => h.1 rfl
    · exact fun h => h.2 rfl
    · exact fun h => h.1 rfl
  · have h1 := hcs.set (o + 1) (.int .i64 (m : Int))
    have h2 : Cells ((w.setCell ⟨g, o + 1, none⟩ (.int .i64 (m : Int))).setCells b m L) g 91 (cs.set (o + 1) (.int .i64 (m : Int))) := h1.move (setCells_other b g hgb _ _ _)
    exact h2.set o _
  · have h1 : Cells (w.setCell ⟨g, o + 1, none⟩ (.int .i64 (m : Int))) b 46 cur := hcur.move (Below.heap_setCell _ _ _ _ (fun e => hgb e.symm))
    obtain ⟨cur', h2, h3, h4⟩ := Cells.setCells b L m _ _ h1
    exact ⟨cur', h2.move (Below.heap_setCell _ _ _ _ (fun e => hgb e.symm)), h3, h4⟩

set_option maxRecDepth 20000 in
set_option maxHeartbeats 2000000 in
theorem cut_some (g o b n c f r : Nat) (k : Int) (cs cur : List Value) (w : World) (hk : 0 ≤ k) (hf : f < n) (hn : n ≤ 1048576) (hnc : n ≤ c) (hr : r = (k % ((n : Int) - (f : Int) + 1)).toNat) (hrn : f + r ≤ n)
    (hcs : Cells w g 91 cs) (hcur : Cells w b 46 cur) (hlc : cur.length = c) (hgb : g ≠ b)
    (e0 : cs[o]? = some (.slice (some ⟨b, 0, none⟩) n c)) (e1 : cs[o + 1]? = some (.int .i64 (f : Int))) :
    Calls Try.prog 49 #[.pointer (some ⟨g, o, none⟩), .int .i64 k] w (CutPost w g o b n c (f + r) cs cur) := by
  have h0 := hcs.cell e0
  have h1 := hcs.cell e1
  have f0 := hcs.frozen o
  have f1 := hcs.frozen (o + 1)
  have Hl := Lib.hid (fun (q : Nat) => loose_any g o (some ⟨b, 0, none⟩) n c f (w.drewN q) h0 h1 (by omega) (by omega))
  have hw1 : IntKind.i64.wrap ((n : Int) - (f : Int) + 1) = (n : Int) - (f : Int) + 1 := IntWalk.i64_in _ (by omega)
  have hnz : ¬ ((n : Int) - (f : Int) + 1 = 0) := by omega
  have hm0 := Int.emod_nonneg k hnz
  have hm1 := Int.emod_lt_of_pos k (show 0 < (n : Int) - (f : Int) + 1 by omega)
  have htm : k.tmod ((n : Int) - (f : Int) + 1) = (r : Int) := by rw [Int.tmod_eq_emod_of_nonneg hk, hr]; omega
  obtain ⟨m, hm⟩ : ∃ m, m = f + r := ⟨_, rfl⟩
  rw [← hm] at hrn ⊢
  have hs : IntKind.i64.wrap ((f : Int) + (r : Int)) = (m : Int) := by rw [hm]; exact IntWalk.i64_in _ (by omega)
  obtain ⟨L, hL⟩ : ∃ L, L = List.replicate (n - m) (Value.slice none 0 0) := ⟨_, rfl⟩
  have HL := Lib.hid hL
  have HW : Hid (∀ q : Nat, ∃ W : World, W = (w.drewN q).setCell ⟨g, o + 1, none⟩ (.int .i64 (m : Int)) ∧ W.cell? ⟨g, o, none⟩ = some (.slice (some ⟨b, 0, none⟩) n c) ∧ W.cell? ⟨g, o + 1, none⟩ = some (.int .i64 (m : Int)) ∧ W.frozen? ⟨g, o, none⟩ = false ∧
      ∀ ty, (Builtin.clear_ #[89] ty #[.slice (some ⟨b, m, none⟩) (n - m) (c - m)]).run Try.prog W.drew = .ok (.tuple #[]) (W.drew.setCells b m L)) := by
    intro q
    have k1 : Cells ((w.drewN q).setCell ⟨g, o + 1, none⟩ (.int .i64 (m : Int))) g 91 (cs.set (o + 1) (.int .i64 (m : Int))) := Cells.set (w := w.drewN q) hcs _ _
    have k2 : Cells ((w.drewN q).setCell ⟨g, o + 1, none⟩ (.int .i64 (m : Int))).drew b 46 cur := Cells.move (w := w) hcur (Below.heap_setCell _ _ _ _ (fun e => hgb e.symm))
    have hlt : o + 1 < cs.length := (List.getElem?_eq_some_iff.1 e1).1
    exact ⟨_, rfl, k1.cell (by rw [List.getElem?_set_ne (by omega)]; exact e0), k1.cell (by rw [List.getElem?_set_self hlt]), k1.frozen _, fun ty => by rw [hL]; exact clear_run _ ty b m (n - m) (c - m) cur k2 (by omega)⟩
  have Fin : Hid (∀ q : Nat, CutPost w g o b n c m cs cur (.returned (.tuple #[])) ((((w.setCell ⟨g, o + 1, none⟩ (.int .i64 (m : Int))).setCells b m L).setCell ⟨g, o, none⟩ (.slice (some ⟨b, 0, none⟩) m c)).drewN q)) :=
    fun q => cut_fin q hgb hcs hcur L
  clear hm hm0 hm1 hr hL hcs hcur hlc
  go_enter Try.func49, Try.ntmps49
  go_wp2_with fail
  go_region_law (first
    | (go_simp; go_at_call 48; refine (Hl.out 1).mono ?_; rintro e w1 ⟨rfl, q, rfl⟩))
  all_goals
    obtain ⟨W, hW, hc0, hc1, hfr, hcl⟩ := HW.out (1 + q)
    rw [← hW]
    have HWe := Lib.hid hW
    clear hW h0 h1 f0 f1 htm hs hw1 hnz
    obtain ⟨V, hV⟩ : ∃ V, V = W.drew.setCells b m L := ⟨_, rfl⟩
    have hd0 : V.cell? ⟨g, o, none⟩ = some (.slice (some ⟨b, 0, none⟩) n c) := by
      rw [hV]
      exact (World.cell?_of_block (w := W) (setCells_other b g hgb L m W.drew)).trans hc0
    have hd1 : V.cell? ⟨g, o + 1, none⟩ = some (.int .i64 (m : Int)) := by
      rw [hV]
      exact (World.cell?_of_block (w := W) (setCells_other b g hgb L m W.drew)).trans hc1
    have hdf : V.frozen? ⟨g, o, none⟩ = false := by
      rw [hV]
      exact (World.frozen?_of_block (w := W) (setCells_other b g hgb L m W.drew)).trans hfr
    have HVe : Hid (CutPost w g o b n c m cs cur (.returned (.tuple #[])) (V.drew.setCell ⟨g, o, none⟩ (.slice (some ⟨b, 0, none⟩) m c))) := by
      rw [hV, HWe.out, cut_world]
      exact Fin.out _
    rw [← hV] at hcl
    have HV := Lib.hid hV
    clear hV
    go_wp2_with fail
    by_cases hcm : c = m
    case neg =>
      go_region
      all_goals
        clear hcl hc0 hc1 hfr
        go_wp2_with fail
        go_region
        all_goals
          go_end0
          exact HVe.out
    case pos =>
      obtain rfl : n = m := by omega
      obtain rfl : c = n := hcm
      have HVW : Hid (V = W.drew) := by show _ = _; rw [HV.out, HL.out, Nat.sub_self]; rfl
      have hV2 := HVe.out
      rw [HVW.out] at hV2
      have HV2 := Lib.hid hV2
      have hcl2 : ∀ ty, (Builtin.clear_ #[89] ty #[.slice (some ⟨b, 0, none⟩) 0 0]).run Try.prog W.drew = .ok (.tuple #[]) W.drew := by
        intro ty
        simp [Builtin.clear_, run_underlying Try.underlying89]
      clear hcl hd0 hd1 hdf hV2
      go_region
      all_goals
        clear hcl2
        go_wp2_with fail
        go_region
        all_goals
          go_end0
          exact HV2.out

theorem set_same {α : Type} (l : List α) (i : Nat) (x : α) (h : l[i]? = some x) : l.set i x = l := by
  apply List.ext_getElem?
  intro j
  by_cases e : i = j
  · subst e
    rw [List.getElem?_set_self (List.getElem?_eq_some_iff.1 h).1, h]
  · rw [List.getElem?_set_ne e]
theorem cut_world0 (w : World) (p' : Addr) (v' : Value) (b m : Nat) (L : List Value) :
    ((w.drew.setCells b m L).drew).setCell p' v' = ((w.setCells b m L).setCell p' v').drewN 2 := by
  have e : w.drew = w.drewN 1 := rfl
  rw [e, setCells_drewN]
  rfl
theorem cut_fin0 {w : World} {g o b n c m : Nat} {cs cur : List Value} (q : Nat) (hgb : g ≠ b) (hcs : Cells w g 91 cs) (e1 : cs[o + 1]? = some (.int .i64 (m : Int))) (hcur : Cells w b 46 cur) (L : List Value) :
    CutPost w g o b n c m cs cur (.returned (.tuple #[])) (((w.setCells b m L).setCell ⟨g, o, none⟩ (.slice (some ⟨b, 0, none⟩) m c)).drewN q) := by
  refine ⟨rfl, ?_, ?_, ?_⟩
  · refine Kept.drewN (Kept.setCell (Kept.setCells (Kept.refl _ w) ?_ _ _) ?_ _) q
    · exact fun h => h.2 rfl
    · exact fun h => h.1 rfl
  · rw [set_same _ _ _ e1]
    have h2 : Cells (w.setCells b m L) g 91 cs := hcs.move (setCells_other b g hgb _ _ _)
    exact h2.set o _
  · obtain ⟨cur', h2, h3, h4⟩ := Cells.setCells b L m _ _ hcur
    exact ⟨cur', h2.move (Below.heap_setCell _ _ _ _ (fun e => hgb e.symm)), h3, h4⟩

set_option maxRecDepth 20000 in
set_option maxHeartbeats 2000000 in
theorem cut_none (g o b n c m : Nat) (k : Int) (cs cur : List Value) (w : World) (hk : k < 0) (hf : m < n) (hn : n ≤ 1048576) (hnc : n ≤ c)
    (hcs : Cells w g 91 cs) (hcur : Cells w b 46 cur) (hlc : cur.length = c) (hgb : g ≠ b)
    (e0 : cs[o]? = some (.slice (some ⟨b, 0, none⟩) n c)) (e1 : cs[o + 1]? = some (.int .i64 (m : Int))) :
    Calls Try.prog 49 #[.pointer (some ⟨g, o, none⟩), .int .i64 k] w (CutPost w g o b n c m cs cur) := by
  have h0 := hcs.cell e0
  have h1 := hcs.cell e1
  have f0 := hcs.frozen o
  have hcm : ¬ c = m := by omega
  have hrn : m ≤ n := by omega
  obtain ⟨L, hL⟩ : ∃ L, L = List.replicate (n - m) (Value.slice none 0 0) := ⟨_, rfl⟩
  have hcl : ∀ ty, (Builtin.clear_ #[89] ty #[.slice (some ⟨b, m, none⟩) (n - m) (c - m)]).run Try.prog w.drew = .ok (.tuple #[]) (w.drew.setCells b m L) := fun ty => by
    rw [hL]
    exact clear_run w.drew ty b m (n - m) (c - m) cur hcur (by omega)
  have Fin : Hid (CutPost w g o b n c m cs cur (.returned (.tuple #[])) (((w.setCells b m L).setCell ⟨g, o, none⟩ (.slice (some ⟨b, 0, none⟩) m c)).drewN 2)) := cut_fin0 2 hgb hcs e1 hcur L
  obtain ⟨V, hV⟩ : ∃ V, V = w.drew.setCells b m L := ⟨_, rfl⟩
  have hd0 : V.cell? ⟨g, o, none⟩ = some (.slice (some ⟨b, 0, none⟩) n c) := by
    rw [hV]
    exact (World.cell?_of_block (w := w) (setCells_other b g hgb L m w.drew)).trans h0
  have hd1 : V.cell? ⟨g, o + 1, none⟩ = some (.int .i64 (m : Int)) := by
    rw [hV]
    exact (World.cell?_of_block (w := w) (setCells_other b g hgb L m w.drew)).trans h1
  have hdf : V.frozen? ⟨g, o, none⟩ = false := by
    rw [hV]
    exact (World.frozen?_of_block (w := w) (setCells_other b g hgb L m w.drew)).trans f0
  have HVe : Hid (CutPost w g o b n c m cs cur (.returned (.tuple #[])) (V.drew.setCell ⟨g, o, none⟩ (.slice (some ⟨b, 0, none⟩) m c))) := by
    rw [hV, cut_world0]
    exact Fin.out
  rw [← hV] at hcl
  clear hV hL hcs hcur hlc
  go_enter Try.func49, Try.ntmps49
  go_wp2_with fail
  go_region
  all_goals
    clear hcl h0 h1 f0
    go_wp2_with fail
    go_region
    all_goals
      go_end0
      exact HVe.out
end Go.Proofs.Ytdnlikhfemhmeaa

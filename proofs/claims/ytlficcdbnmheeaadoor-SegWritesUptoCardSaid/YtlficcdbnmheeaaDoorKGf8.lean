/-
  Matrices that are only read: few, Same, Right.
-/
import Derived.Test.YtlficcdbnmheeaaDoorKGf4
import Derived.Test.YtlficcdbnmheeaaDoorKBase
import Derived.Lib.Strings
namespace Go.Proofs.YtlficcdbnmheeaaDoor
open Go.RowKit

set_option maxRecDepth 20000
/-- THE SLICE OF SLICES AT A READS AS M, and lies below block B. -/
def RM (w : World) (B : Nat) (A : Option Addr) (M : List (List UInt8)) : Prop :=
  ∀ (k : Nat) (l : List UInt8), M[k]? = some l → ∃ (b o : Nat) (A' : Option Addr) (c : Nat), A = some ⟨b, o, none⟩ ∧ b < B ∧ w.cell? ⟨b, o + k, none⟩ = some (.slice A' l.length c) ∧ RB w B A' l ∧ l.length ≤ c
section
variable {w w' : World} {B : Nat} {A : Option Addr} {M : List (List UInt8)}
theorem RM.below (h : RM w B A M) (hb : Below B w w') : RM w' B A M := fun k l hl => by
  obtain ⟨b, o, A', c, e, hlt, hc, hr, hcap⟩ := h k l hl
  exact ⟨b, o, A', c, e, hlt, (hb.cell (p := ⟨b, o + k, none⟩) hlt).trans hc, hr.below hb, hcap⟩
theorem RM.wide {B' : Nat} (h : RM w B A M) (hB : B ≤ B') : RM w B' A M := fun k l hl => by
  obtain ⟨b, o, A', c, e, hlt, hc, hr, hcap⟩ := h k l hl
  exact ⟨b, o, A', c, e, by omega, hc, hr.wide hB, hcap⟩
theorem RM.drewN (h : RM w B A M) (n : Nat) : RM (w.drewN n) B A M := h
/-- where it begins -/
theorem RM.at_ (h : RM w B A M) (h0 : 0 < M.length) : ∃ b o, A = some ⟨b, o, none⟩ ∧ b < B := by
  obtain ⟨b, o, _, _, e, hlt, _⟩ := h 0 _ (List.getElem?_eq_getElem h0)
  exact ⟨b, o, e, hlt⟩
theorem RM.row {b o : Nat} (h : RM w B (some ⟨b, o, none⟩) M) {k : Nat} {l : List UInt8} (hl : M[k]? = some l) : ∃ A' c, w.cell? ⟨b, o + k, none⟩ = some (.slice A' l.length c) ∧ RB w B A' l ∧ l.length ≤ c := by
  obtain ⟨b', o', A', c, e, hlt, hc, hr, hcap⟩ := h k l hl
  cases e
  exact ⟨A', c, hc, hr, hcap⟩
theorem RM.nil (w : World) (B : Nat) (A : Option Addr) : RM w B A [] := fun k l hl => by simp at hl
theorem MatO.rm {lo hi : Nat} {v : Value} (h : MatO w lo hi v M) : ∃ A c, v = .slice A M.length c ∧ M.length ≤ c ∧ RM w w.heap.size A M := by
  by_cases h0 : 0 < M.length
  · obtain ⟨g, c, rfl, hc, _, _, hlt, _⟩ := h.head h0
    refine ⟨_, c, rfl, hc, fun k l hl => ?_⟩
    obtain ⟨b, c', hr, _⟩ := h.row hl
    exact ⟨g, 0, some ⟨b, 0, none⟩, c', rfl, hlt, by rw [Nat.zero_add]; exact hr.head, fun j x hx => ⟨_, rfl, hr.lt, by rw [add_flat, Nat.zero_add]; exact hr.cells j x hx⟩, hr.cap⟩
  · obtain ⟨A, c, hv, hc, _⟩ := h.rbb
    exact ⟨A, c, hv, hc, fun k l hl => by have := (List.getElem?_eq_some_iff.1 hl).1; omega⟩
end

def bulkM (M : List (List UInt8)) : Nat := (M.map fun l => 1 + l.length).sum
def fewM (M : List (List UInt8)) : Bool := decide (bulkM M ≤ 2000)
theorem bulkM_take (M : List (List UInt8)) (k : Nat) (l : List UInt8) (h : M[k]? = some l) : bulkM (M.take (k + 1)) = bulkM (M.take k) + 1 + l.length := by
  have hk := (List.getElem?_eq_some_iff.1 h).1
  have hx := (List.getElem?_eq_some_iff.1 h).2
  unfold bulkM
  rw [List.take_succ_eq_append_getElem hk, hx]
  simp [Nat.add_assoc]
def rightB (M : List (List UInt8)) : Bool := decide (1 ≤ M.length ∧ M.length ≤ 255 ∧ 1 ≤ (M.headD []).length ∧ (M.headD []).length ≤ 255 ∧ ∀ l ∈ M, l.length = (M.headD []).length)
theorem head_get {M : List (List UInt8)} (h : 0 < M.length) : M[0]? = some (M.headD []) := by
  cases M with
  | nil => simp at h
  | cons a t => rfl
/-- a right matrix, in numbers -/
theorem right_facts {M : List (List UInt8)} (h : rightB M = true) : ∃ n, 1 ≤ M.length ∧ M.length ≤ 255 ∧ 1 ≤ n ∧ n ≤ 255 ∧ M[0]? = some (M.headD []) ∧ (M.headD []).length = n ∧ ∀ (k : Nat) (l : List UInt8), M[k]? = some l → l.length = n := by
  obtain ⟨h1, h2, h3, h4, h5⟩ := of_decide_eq_true h
  exact ⟨_, h1, h2, h3, h4, head_get h1, rfl, fun k l hl => h5 l (List.mem_of_getElem? hl)⟩
theorem eq_text (a b : ByteArray) : (a.toList == b.toList) = decide (a = b) := by
  rw [Bool.eq_iff_iff]
  simp only [beq_iff_eq, decide_eq_true_eq]
  constructor
  · intro h
    rw [Lib.toList_data, Lib.toList_data] at h
    exact ByteArray.ext (Array.toList_inj.1 h)
  · intro h; rw [h]
theorem eql_str_conv (w : World) (B : Nat) (A : Option Addr) (l : List UInt8) (c : Nat) (hr : RB w B A l) : ∀ q, (convert 25 9 (.slice A l.length c)).run Tryd.prog (w.drewN q) = .ok (.string ⟨l.toArray⟩) (w.drewN q) := fun q => text_run (w.drewN q) B A l c (hr.drewN q)
end Go.Proofs.YtlficcdbnmheeaaDoor

/-
  Is a matrix right? Both programs'.
-/
namespace Go.Proofs.YtlficcdbnmheeaaDoor
open Go.RowKit

set_option maxRecDepth 20000
set_option maxHeartbeats 1000000 in
theorem right_any (A : Option Addr) (c : Nat) (M : List (List UInt8)) (w : World) (B : Nat) (h : RM w B A M) (hl : M.length ≤ 1048576) (hll : ∀ (k : Nat) (l : List UInt8), M[k]? = some l → l.length ≤ 1048576) :
    Calls Tryd.prog 123 #[.slice A M.length c] w fun e w' => e = .returned (.bool (rightB M)) ∧ w = w' := by
  by_cases hr : 1 ≤ M.length ∧ M.length ≤ 255
  case neg =>
    have Hr : Hid (rightB M = false) := decide_eq_false fun q => hr ⟨q.1, q.2.1⟩
    have Hf := Lib.hid (fits_no (M.length : Int) w (by omega))
    generalize M.length = N at *
    clear h hl hll hr
    go_enter Tryd.func123, Tryd.ntmps123
    go_wp2_with (go_at_call 97; refine Hf.out.mono ?_; rintro e w1 ⟨rfl, rfl⟩)
    go_ret
    exact ⟨by rw [Hr.out]; rfl, rfl⟩
  obtain ⟨h1, h2⟩ := hr
  have Hf := Lib.hid (fits_yes (M.length : Int) w (by omega) (by omega))
  obtain ⟨b, o, rfl, hb⟩ := h.at_ (by omega)
  obtain ⟨A0, c0, g0, _, _⟩ := h.row (head_get (M := M) (by omega))
  have hn0 := hll 0 _ (head_get (M := M) (by omega))
  obtain ⟨n0, hN0⟩ : ∃ n0, n0 = (M.headD []).length := ⟨_, rfl⟩
  rw [← hN0] at g0 hn0
  obtain ⟨N, hN⟩ : ∃ N, N = M.length := ⟨_, rfl⟩
  have Hh := Lib.hid h
  have HN : Hid (N = M.length ∧ n0 = (M.headD []).length) := ⟨hN, hN0⟩
  rw [← hN] at Hf h1 h2 ⊢
  have hN1 : (0 : Int) < (N : Int) := by omega
  have hN2 : (N : Int) ≤ 255 := by omega
  have hn0' : (n0 : Int) ≤ 1048576 := by omega
  have Hll := Lib.hid hll
  have Hst : Hid (∀ (k : Nat) (l : List UInt8), k < 0 → M[k]? = some l → l.length = n0) := fun k l hk => by omega
  have HN1 := Lib.hid h1
  rw [Nat.add_zero] at g0
  clear h hl hll hN hN0 h1
  go_enter Tryd.func123, Tryd.ntmps123
  go_wp2_with (go_at_call 97; refine Hf.out.mono ?_; rintro e w1 ⟨rfl, rfl⟩)
  go_loop [4, 11] (fun _ iv => ∃ k : Nat, iv = .int .i64 (k : Int) ∧ k ≤ N ∧ Hid (∀ (j : Nat) (l : List UInt8), j < k → M[j]? = some l → l.length = n0)) (fun _ iv => N - (intOf iv).toNat)
  case atStart => exact ⟨0, rfl, Nat.zero_le _, Hst.out⟩
  case round =>
    obtain ⟨k, rfl, hk, hrel⟩ := hrel
    by_cases hlt : k < N
    · obtain ⟨l, hx⟩ : ∃ l, M[k]? = some l := ⟨_, List.getElem?_eq_getElem (by rw [← HN.out.1]; exact hlt)⟩
      obtain ⟨A', c', hc, _, _⟩ := Hh.out.row hx
      have hk' : (k : Int) < (N : Int) := by omega
      have hlb := Hll.out k l hx
      by_cases heq : l.length = n0
      · have Hn : Hid (∀ (j : Nat) (l : List UInt8), j < k + 1 → M[j]? = some l → l.length = n0) := fun j l' hj hl' => by
          by_cases hjk : j < k
          · exact hrel.out j l' hjk hl'
          · obtain rfl : j = k := by omega
            rw [hx] at hl'
            cases hl'
            exact heq
        rw [heq] at hc
        clear hx hlb heq hlt hrel
        go_wp2_with fail
        go_round
        case rel => exact ⟨k + 1, by go_num, by omega, Hn.out⟩
        case measure => simp [intOf]; omega
      · have hbb : ((l.length : Int) != (n0 : Int)) = true := by simp; omega
        have Hr : Hid (rightB M = false) := decide_eq_false fun q => heq (by rw [HN.out.2]; exact q.2.2.2.2 l (List.mem_of_getElem? hx))
        generalize l.length = m at *
        clear hx heq hlt hrel
        go_wp2_with fail
        go_ret
        exact ⟨by rw [Hr.out]; rfl, rfl⟩
    · obtain rfl : k = N := by omega
      have Hall : Hid (∀ l ∈ M, l.length = n0) := fun l hl => by
        obtain ⟨j, hj⟩ := List.getElem?_of_mem hl
        exact hrel.out j l (by rw [HN.out.1]; exact (List.getElem?_eq_some_iff.1 hj).1) hj
      by_cases hn : 1 ≤ n0 ∧ n0 ≤ 255
      · have Hf2 := Lib.hid (fits_yes (n0 : Int) w (by omega) (by omega))
        have Hr : Hid (rightB M = true) := decide_eq_true ⟨by rw [← HN.out.1]; exact HN1.out, by rw [← HN.out.1]; omega, by rw [← HN.out.2]; exact hn.1, by rw [← HN.out.2]; exact hn.2, by rw [← HN.out.2]; exact Hall.out⟩
        clear hlt hrel hn
        go_wp2_with (go_at_call 97; refine Hf2.out.mono ?_; rintro e w1 ⟨rfl, rfl⟩)
        go_ret
        exact ⟨by rw [Hr.out]; rfl, rfl⟩
      · have Hf2 := Lib.hid (fits_no (n0 : Int) w (by omega))
        have Hr : Hid (rightB M = false) := decide_eq_false fun q => hn (by rw [HN.out.2]; exact ⟨q.2.2.1, q.2.2.2.1⟩)
        clear hlt hrel hn
        go_wp2_with (go_at_call 97; refine Hf2.out.mono ?_; rintro e w1 ⟨rfl, rfl⟩)
        go_ret
        exact ⟨by rw [Hr.out]; rfl, rfl⟩
end Go.Proofs.YtlficcdbnmheeaaDoor

/-
  The second saying's blank, Unit, Pairs.
-/
namespace Go.Proofs.YtlficcdbnmheeaaDoor
open Go.RowKit

set_option maxRecDepth 20000
/-- a row more: append's own facts give the longer matrix -/
theorem MatO.push {W : World} {lo hi : Nat} {v rv : Value} {M : List (List UInt8)} {l : List UInt8} (h : MatO W lo hi v M) (hr : Own W lo rv l) (h0 : 0 < l.length) (hf : ∀ g, rv.ownBlock = some g → hi ≤ g) (_hhi : hi ≤ W.heap.size) :
    ∃ rows : List Value, OwnV W lo 25 v rows ∧ rows.length = M.length ∧ ∀ v' w', OwnV w' lo 25 v' (rows ++ [rv]) → W.grownBy w' v.ownBlock → (v'.ownBlock = v.ownBlock ∨ v'.ownBlock = some W.heap.size) → MatO w' lo w'.heap.size v' (M ++ [l]) := by
  obtain ⟨rows, a, b, c, d, e⟩ := h
  refine ⟨rows, a, c, fun v' w' hown hg hb => ⟨rows ++ [rv], hown, fun g hg' => (hown.ge g hg').2, by simp [c], fun i r l' hr' hl' => ?_, fun i j ri rj g hij hri hrj hgi hgj => ?_⟩⟩
  · -- the header's block is no row's
    have hty : ∀ (r : Value) (x : List UInt8), Own W lo r x → 0 < x.length → ∀ g, r.ownBlock = some g → v.ownBlock ≠ some g := by
      intro r x hx hx0 g hgr hgv
      obtain ⟨bb, cap, rfl, _⟩ := hx.form hx0
      cases hgr
      rcases a.form with ⟨hv, _⟩ | ⟨g', cap', cur, hv, _, hc, _⟩
      · rw [hv] at hgv; cases hgv
      · rw [hv] at hgv
        cases hgv
        rcases hx.toV.form with ⟨hv2, _⟩ | ⟨g2, cap2, cur2, hv2, _, hc2, _⟩
        · cases hv2
        · have e3 := (Value.slice.inj hv2).1
          simp at e3
          rw [← e3] at hc2
          exact absurd (hc.type hc2).1 (by decide)
    have moved : ∀ (r : Value) (x : List UInt8), Own W lo r x → 0 < x.length → Own w' lo r x := fun r x hx hx0 => hx.move fun g hgr => hg.block g (hx.lt g hgr).2 (fun e' => hty r x hx hx0 g hgr e'.symm)
    have hin : ∀ (r : Value) (x : List UInt8), Own w' lo r x → ∀ g, r.ownBlock = some g → g < w'.heap.size := fun r x hx g hgr => (hx.lt g hgr).2
    by_cases hi' : i < rows.length
    · rw [List.getElem?_append_left hi'] at hr'
      rw [List.getElem?_append_left (by rw [← c]; exact hi')] at hl'
      obtain ⟨d1, d2, d3⟩ := d i r l' hr' hl'
      have := moved r l' d2 d1
      exact ⟨d1, this, hin r l' this⟩
    · rw [List.getElem?_append_right (by omega)] at hr'
      rw [List.getElem?_append_right (by rw [← c]; omega)] at hl'
      have hi0 : i - rows.length = 0 := by
        have := (List.getElem?_eq_some_iff.1 hr').1
        simp at this
        omega
      rw [hi0] at hr'
      rw [← c, hi0] at hl'
      cases hr'
      cases hl'
      have := moved rv l hr h0
      exact ⟨h0, this, hin rv l this⟩
  · have low : ∀ (k : Nat) (r : Value) (g : Nat), k < rows.length → rows[k]? = some r → r.ownBlock = some g → g < hi := fun k r g hk hr' hgr => by
      obtain ⟨x, hx⟩ : ∃ x, M[k]? = some x := ⟨_, List.getElem?_eq_getElem (by rw [← c]; exact hk)⟩
      exact (d k r x hr' hx).2.2 g hgr
    by_cases hi' : i < rows.length
    · rw [List.getElem?_append_left hi'] at hri
      by_cases hj' : j < rows.length
      · rw [List.getElem?_append_left hj'] at hrj
        exact e i j ri rj g hij hri hrj hgi hgj
      · rw [List.getElem?_append_right (by omega)] at hrj
        have hj0 : j - rows.length = 0 := by
          have := (List.getElem?_eq_some_iff.1 hrj).1
          simp at this
          omega
        rw [hj0] at hrj
        cases hrj
        have q1 := low i ri g hi' hri hgi
        have q2 := hf g hgj
        omega
    · rw [List.getElem?_append_right (by omega)] at hri
      have hi0 : i - rows.length = 0 := by
        have := (List.getElem?_eq_some_iff.1 hri).1
        simp at this
        omega
      rw [hi0] at hri
      cases hri
      have hj' : j < rows.length := by
        rcases Nat.lt_or_ge j rows.length with q | q
        · exact q
        · rw [List.getElem?_append_right q] at hrj
          have := (List.getElem?_eq_some_iff.1 hrj).1
          simp at this
          omega
      rw [List.getElem?_append_left hj'] at hrj
      have q1 := low j rj g hj' hrj hgj
      have q2 := hf g hgi
      omega
theorem MatO.nought (w : World) (lo hi : Nat) : MatO w lo hi (.slice none 0 0) [] :=
  ⟨[], OwnV.nil _ _ _, (fun g hg => by cases hg), rfl, (fun i r l hr => by simp at hr), fun i j ri rj g _ hri => by simp at hri⟩
theorem MatO.form {w : World} {lo hi : Nat} {v : Value} {M : List (List UInt8)} (h : MatO w lo hi v M) : ∃ A c, v = .slice A M.length c := by
  obtain ⟨A, c, hv, _⟩ := h.rbb
  exact ⟨A, c, hv⟩
theorem blankM_snoc (k n : Nat) : blankM k n ++ [List.replicate n 0] = blankM (k + 1) n := by
  unfold blankM
  rw [List.replicate_succ']
def MadeR (w : World) (M : List (List UInt8)) (e : Ending) (w' : World) : Prop :=
  ∃ v, e = .returned v ∧ MatO w' w.heap.size w'.heap.size v M ∧ Below w.heap.size w w'
def BlankR (w : World) (k n : Nat) (v : Value) (wr : World) : Prop := MatO wr w.heap.size wr.heap.size v (blankM k n) ∧ Below w.heap.size w wr
theorem blankR_step {w wr : World} {k n : Nat} {v : Value} {cs : Array Value} (h : BlankR w k n v wr) (hn : 1 ≤ n) (hn2 : n ≤ 255) (hc : cs = (bvs (List.replicate n 0)).toArray) :
    ∃ rows : List Value, OwnV ((wr.alloc (.cells cs 5)).alloc (.cells #[.slice (some ⟨wr.heap.size, 0, none⟩) n n] 25)) w.heap.size 25 v rows ∧ rows.length = k ∧
      ∀ v' w', OwnV w' w.heap.size 25 v' (rows ++ [.slice (some ⟨wr.heap.size, 0, none⟩) n n]) → ((wr.alloc (.cells cs 5)).alloc (.cells #[.slice (some ⟨wr.heap.size, 0, none⟩) n n] 25)).grownBy w' v.ownBlock → (v'.ownBlock = v.ownBlock ∨ v'.ownBlock = some ((wr.alloc (.cells cs 5)).alloc (.cells #[.slice (some ⟨wr.heap.size, 0, none⟩) n n] 25)).heap.size) →
        BlankR w (k + 1) n v' w' := by
  obtain ⟨h1, h2⟩ := h
  have hs := h2.size
  have hb1 : Below wr.heap.size wr ((wr.alloc (.cells cs 5)).alloc (.cells #[.slice (some ⟨wr.heap.size, 0, none⟩) n n] 25)) := ((Below.refl _ _).alloc (Nat.le_refl _) _).alloc (by simp) _
  have hblk : Blk ((wr.alloc (.cells cs 5)).alloc (.cells #[.slice (some ⟨wr.heap.size, 0, none⟩) n n] 25)) wr.heap.size (List.replicate n 0) := by
    refine Blk.alloc ?_ _
    have := heap_alloc_new wr (.cells cs 5)
    unfold Blk
    rw [this, hc]
  have hown : Own ((wr.alloc (.cells cs 5)).alloc (.cells #[.slice (some ⟨wr.heap.size, 0, none⟩) n n] 25)) w.heap.size (.slice (some ⟨wr.heap.size, 0, none⟩) n n) (List.replicate n 0) := by
    have := hblk.own (base := w.heap.size) hs (by simp; omega)
    rw [List.length_replicate] at this
    exact this
  obtain ⟨rows, r1, r2, r3⟩ := (h1.below hb1).push hown (by simp; omega) (fun g hg => by cases hg; exact Nat.le_refl _) (by simp; omega)
  refine ⟨rows, r1, by rw [r2]; simp [blankM], fun v' w' q1 q2 q3 => ⟨?_, ?_⟩⟩
  · have := r3 v' w' q1 q2 q3
    rw [blankM_snoc] at this
    exact this
  · exact (((h2.alloc hs _).alloc (by simp; omega) _)).grown q2 (by simp; omega) fun g hg => (r1.ge g hg).1
end Go.Proofs.YtlficcdbnmheeaaDoor

/-
  The second saying's Unit and Pairs.
-/
namespace Go.Proofs.YtlficcdbnmheeaaDoor
open Go.RowKit

set_option maxRecDepth 20000
def UnitRelR (w : World) (lo hi g n c k : Nat) (wr : World) : Prop := MatO wr lo hi (.slice (some ⟨g, 0, none⟩) n c) (unitK n k) ∧ Below w.heap.size w wr ∧ wr.heap.size = hi ∧ lo = w.heap.size
def MadeE (w : World) (M : List (List UInt8)) (e : Ending) (w' : World) : Prop :=
  ∃ A c, e = .returned (.tuple #[.slice A M.length c, .int .i64 0]) ∧ MatO w' w.heap.size w'.heap.size (.slice A M.length c) M ∧ Below w.heap.size w w'
theorem unitM_length (n : Nat) : (unitM n).length = n := by simp [unitM]
def PairRelR (w : World) (lo hi g n cc k : Nat) (wr : World) : Prop := MatO wr lo hi (.slice (some ⟨g, 0, none⟩) 2 cc) (pairsK n k) ∧ Below w.heap.size w wr ∧ wr.heap.size = hi ∧ lo = w.heap.size
theorem pairR_facts {w wr : World} {lo hi g n cc k : Nat} (h : PairRelR w lo hi g n cc k wr) (hk : k < n) :
    ∃ b b' c c', b ≠ b' ∧ b ≠ g ∧ b' ≠ g ∧ n ≤ c ∧ n ≤ c' ∧ wr.cell? ⟨g, 0, none⟩ = some (.slice (some ⟨b, 0, none⟩) n c) ∧ wr.cell? ⟨g, 1, none⟩ = some (.slice (some ⟨b', 0, none⟩) n c') ∧ wr.cell? ⟨b, k, none⟩ = some (.int .u8 0) ∧ wr.cell? ⟨b', k, none⟩ = some (.int .u8 0) ∧ wr.frozen? ⟨b, k, none⟩ = false ∧ wr.frozen? ⟨b', k, none⟩ = false ∧
      PairRelR w lo hi g n cc (k + 1) ((wr.setCell ⟨b, k, none⟩ (.int .u8 1)).setCell ⟨b', k, none⟩ (.int .u8 ((ex k : Nat) : Int))) := by
  obtain ⟨r1, r2, r3, r4⟩ := h
  obtain ⟨b, b', c, c', h1, h2, hne, hs⟩ := r1.two (i := 0) (i' := 1) (by omega) rfl rfl
  have l1 : (List.replicate k (1 : UInt8) ++ List.replicate (n - k) 0).length = n := by simp; omega
  have l2 : ((List.range k).map pwr ++ List.replicate (n - k) 0).length = n := by simp; omega
  have g1 := h1.head
  have g2 := h2.head
  rw [l1] at g1
  rw [l2] at g2
  refine ⟨b, b', c, c', hne, h1.ne, h2.ne, by have := h1.cap; omega, by have := h2.cap; omega, g1, g2, h1.cells k 0 ?_, h2.cells k 0 ?_, h1.free k, h2.free k, ?_⟩
  · rw [List.getElem?_append_right (by simp), List.length_replicate, Nat.sub_self, List.getElem?_replicate, if_pos (by omega)]
  · rw [List.getElem?_append_right (by simp), List.length_map, List.length_range, Nat.sub_self, List.getElem?_replicate, if_pos (by omega)]
  · obtain ⟨s1, _⟩ := hs k 1 k (pwr k)
    have e : ((pairsK n k).set 0 ((List.replicate k (1 : UInt8) ++ List.replicate (n - k) 0).set k 1)).set 1 (((List.range k).map pwr ++ List.replicate (n - k) 0).set k (pwr k)) = pairsK n (k + 1) := by
      rw [pairs_step0 n k hk, pairs_step1 n k hk]
      rfl
    rw [e, pwr_nat] at s1
    have b1 : w.heap.size ≤ b := by rw [← r4]; exact h1.low
    have b2 : w.heap.size ≤ b' := by rw [← r4]; exact h2.low
    exact ⟨s1, (r2.setCell (p := ⟨b, k, none⟩) b1 (.int .u8 1)).setCell (p := ⟨b', k, none⟩) b2 (.int .u8 ((ex k : Nat) : Int)), by simp [World.setCell, r3], r4⟩
end Go.Proofs.YtlficcdbnmheeaaDoor

/-
  GfMakes, walked.
-/
namespace Go.Proofs.YtlficcdbnmheeaaDoor
open Go.RowKit

set_option maxRecDepth 20000
/-- a matrix is told, with a code -/
def Tells (w : World) (L : List (List UInt8)) (code : Nat) (e : Ending) (w' : World) : Prop :=
  ∃ A c, e = .returned (.tuple #[.slice A L.length c, .int .i64 (code : Int)]) ∧ RM w' w'.heap.size A L ∧ L.length ≤ c ∧ Below w.heap.size w w'
def unitL (n : Int) : List (List UInt8) := if 1 ≤ n ∧ n ≤ 255 then unitM n.toNat else []
def pairsL (n : Int) : List (List UInt8) := if 1 ≤ n ∧ n ≤ 255 then pairsM n.toNat else []
def sizeC (n : Int) : Nat := if 1 ≤ n ∧ n ≤ 255 then 0 else 1
theorem tells_bad {w : World} {f : FuncId} {args : Array Value} (h : Calls Tryd.prog f args w fun e w' => e = .returned (.tuple #[.slice none 0 0, .int .i64 1]) ∧ w = w') : Calls Tryd.prog f args w (Tells w [] 1) :=
  h.mono fun e w' ⟨he, hw⟩ => ⟨none, 0, he, RM.nil _ _ _, Nat.le_refl _, by rw [← hw]; exact Below.refl _ _⟩
theorem madeE_tells {w : World} {L : List (List UInt8)} {e : Ending} {w' : World} (h : MadeE w L e w') : Tells w L 0 e w' := by
  obtain ⟨A, c, he, hm, hb⟩ := h
  obtain ⟨A', c', e2, hc, hr⟩ := hm.rm
  cases e2
  exact ⟨A, c, he, hr, hc, hb⟩
theorem unit_tells (n : Int) (w : World) : Calls Tryd.prog 119 #[.int .i64 n] w (Tells w (unitL n) (sizeC n)) := by
  unfold unitL sizeC
  by_cases h : 1 ≤ n ∧ n ≤ 255
  · rw [if_pos h, if_pos h]
    obtain ⟨m, rfl⟩ : ∃ m : Nat, n = (m : Int) := ⟨n.toNat, by omega⟩
    refine (unit_any m w (by omega) (by omega)).mono fun e w' ⟨g, he, hm, hb⟩ => ?_
    rw [Int.toNat_natCast]
    exact madeE_tells ⟨some ⟨g, 0, none⟩, m, by rw [unitM_length]; exact he, by rw [unitM_length]; exact hm, hb⟩
  · rw [if_neg h, if_neg h]
    exact tells_bad (unit_bad n w (by omega))
theorem pairs_tells (n : Int) (w : World) : Calls Tryd.prog 78 #[.int .i64 n] w (Tells w (pairsL n) (sizeC n)) := by
  unfold pairsL sizeC
  by_cases h : 1 ≤ n ∧ n ≤ 255
  · rw [if_pos h, if_pos h]
    obtain ⟨m, rfl⟩ : ∃ m : Nat, n = (m : Int) := ⟨n.toNat, by omega⟩
    refine (pairs_any m w (by omega) (by omega)).mono fun e w' ⟨g, he, hm, hb⟩ => ?_
    rw [Int.toNat_natCast]
    exact madeE_tells ⟨some ⟨g, 0, none⟩, 2, he, hm, hb⟩
  · rw [if_neg h, if_neg h]
    exact tells_bad (pairs_bad n w (by omega))
theorem unitL_len (n : Int) : (unitL n).length ≤ 1048576 := by
  unfold unitL
  split
  · rw [unitM_length]; omega
  · simp
theorem pairsL_len (n : Int) : (pairsL n).length ≤ 1048576 := by
  unfold pairsL
  split <;> simp [pairsM]
end Go.Proofs.YtlficcdbnmheeaaDoor

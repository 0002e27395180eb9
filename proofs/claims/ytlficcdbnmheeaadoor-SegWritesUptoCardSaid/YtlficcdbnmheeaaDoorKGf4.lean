/-
  Matrices made: blank ones, units, pairs; the law's example.
-/
import Derived.Test.YtlficcdbnmheeaaDoorGf3
import Derived.RegionTactic
import Derived.ChangeAlike
namespace Go.Proofs.YtlficcdbnmheeaaDoor
open Go.RowKit

set_option maxRecDepth 20000
def fitsB (n : Int) : Bool := decide (1 ≤ n ∧ n ≤ 255)
theorem fits_yes (n : Int) (w : World) (h1 : 1 ≤ n) (h2 : n ≤ 255) :
    Calls Tryd.prog 97 #[.int .i64 n] w fun e w' => e = .returned (.bool true) ∧ w = w' := by
  go_enter Tryd.func97, Tryd.ntmps97
  go_wp2_with fail
  go_ret
  exact ⟨rfl, rfl⟩
theorem fits_no (n : Int) (w : World) (h : n < 1 ∨ 255 < n) :
    Calls Tryd.prog 97 #[.int .i64 n] w fun e w' => e = .returned (.bool false) ∧ w = w' := by
  rcases h with h | h
  · go_enter Tryd.func97, Tryd.ntmps97
    go_wp2_with fail
    go_ret
    exact ⟨rfl, rfl⟩
  · have h1 : 1 ≤ n := by omega
    have hd : decide (n ≤ 255) = false := by simp; omega
    clear h
    go_enter Tryd.func97, Tryd.ntmps97
    go_wp2_with fail
    go_ret
    exact ⟨rfl, rfl⟩
def blankM (r n : Nat) : List (List UInt8) := List.replicate r (List.replicate n 0)
def rowV (g n i : Nat) : Value := .slice (some ⟨g + 1 + i, 0, none⟩) n n
def rowsV (g n k : Nat) : List Value := (List.range k).map (rowV g n)
structure BlankAt (w : World) (r n k : Nat) (wr : World) : Prop where
  head : Cells wr w.heap.size 25 (rowsV w.heap.size n k ++ List.replicate (r - k) (.slice none 0 0))
  size : wr.heap.size = w.heap.size + 1 + k
  rows : ∀ i, i < k → Blk wr (w.heap.size + 1 + i) (List.replicate n 0)
  bel : Below w.heap.size w wr
theorem BlankAt.start (w : World) (r n : Nat) {cs : Array Value} (h : cs = (List.replicate r (.slice none 0 0)).toArray) : BlankAt w r n 0 (w.alloc (.cells cs 25)) := by
  refine ⟨?_, by simp, fun i hi => by omega, (Below.refl _ _).alloc (Nat.le_refl _) _⟩
  have := Cells.new w cs 25
  rw [h] at this ⊢
  simpa [rowsV] using this
theorem BlankAt.step {w wr : World} {r n k : Nat} (h : BlankAt w r n k wr) (hk : k < r) {cs : Array Value} (hc : cs = (bvs (List.replicate n 0)).toArray) :
    BlankAt w r n (k + 1) ((wr.setCell ⟨w.heap.size, k, none⟩ (.slice (some ⟨wr.heap.size, 0, none⟩) n n)).alloc (.cells cs 5)) := by
  have hs := h.size
  refine ⟨?_, ?_, fun i hi => ?_, ?_⟩
  · have := (h.head.set k (.slice (some ⟨wr.heap.size, 0, none⟩) n n)).alloc (.cells cs 5)
    have e : (rowsV w.heap.size n k ++ List.replicate (r - k) (Value.slice none 0 0)).set k (.slice (some ⟨wr.heap.size, 0, none⟩) n n) = rowsV w.heap.size n (k + 1) ++ List.replicate (r - (k + 1)) (Value.slice none 0 0) := by
      have hl : (rowsV w.heap.size n k).length = k := by simp [rowsV]
      rw [List.set_append_right _ _ (by omega), hl, Nat.sub_self]
      obtain ⟨m, hm⟩ : ∃ m, r - k = m + 1 := ⟨r - k - 1, by omega⟩
      rw [hm, show r - (k + 1) = m by omega]
      simp only [List.replicate_succ, List.set_cons_zero]
      unfold rowsV
      rw [List.range_succ, List.map_append, List.append_assoc]
      simp [rowV, hs]
    rw [e] at this
    exact this
  · simp [World.setCell, hs]; omega
  · have hb : w.heap.size + 1 + i ≠ w.heap.size := by omega
    by_cases hik : i < k
    · refine Blk.alloc ?_ _
      unfold Blk
      rw [show (wr.setCell ⟨w.heap.size, k, none⟩ (.slice (some ⟨wr.heap.size, 0, none⟩) n n)).heap[w.heap.size + 1 + i]? = wr.heap[w.heap.size + 1 + i]? from Below.heap_setCell _ _ _ _ hb]
      exact h.rows i hik
    · obtain rfl : i = k := by omega
      have key : ∀ u : Value, ((wr.setCell ⟨w.heap.size, i, none⟩ u).alloc (.cells cs 5)).heap[w.heap.size + 1 + i]? = some (.cells cs 5) := fun u => by
        have := heap_alloc_new (wr.setCell ⟨w.heap.size, i, none⟩ u) (.cells cs 5)
        rw [show (wr.setCell ⟨w.heap.size, i, none⟩ u).heap.size = wr.heap.size by simp [World.setCell], hs] at this
        exact this
      unfold Blk
      rw [key, hc]
  · exact (h.bel.setCell (p := ⟨w.heap.size, k, none⟩) (Nat.le_refl _) _).alloc (by simp [World.setCell, hs]; omega) _
theorem BlankAt.done {w wr : World} {r n : Nat} (h : BlankAt w r n r wr) (hr : r ≤ 255) (hn : 1 ≤ n) (hn2 : n ≤ 255) : MatO wr w.heap.size wr.heap.size (.slice (some ⟨w.heap.size, 0, none⟩) r r) (blankM r n) := by
  have hs := h.size
  have hl : (rowsV w.heap.size n r).length = r := by simp [rowsV]
  have hc := h.head
  rw [Nat.sub_self, List.replicate_zero, List.append_nil] at hc
  have hg : ∀ (i : Nat) rv, (rowsV w.heap.size n r)[i]? = some rv → i < r ∧ rv = rowV w.heap.size n i := fun i rv hrv => by
    have hi := (List.getElem?_eq_some_iff.1 hrv).1
    rw [hl] at hi
    unfold rowsV at hrv
    rw [List.getElem?_map, List.getElem?_range (by omega)] at hrv
    exact ⟨hi, (Option.some.inj hrv).symm⟩
  refine ⟨rowsV w.heap.size n r, ?_, fun g hg => by cases hg; show w.heap.size < _; omega, by simp [hl, blankM], fun i rv l hrv hll => ?_, fun i j ri rj g hij hri hrj hgi hgj => ?_⟩
  · have := OwnV.mk (base := w.heap.size) (e := 25) (xs := rowsV w.heap.size n r) (cap := r) (Nat.le_refl _) hc (by omega) (by simp only [maxLen]; omega) hl (List.take_of_length_le (by omega))
    rw [hl] at this
    exact this
  · obtain ⟨hi, rfl⟩ := hg i rv hrv
    have : l = List.replicate n 0 := by
      unfold blankM at hll
      rw [List.getElem?_replicate, if_pos hi] at hll
      exact (Option.some.inj hll).symm
    subst this
    refine ⟨by simp; omega, ?_, fun g hg => by cases hg; show w.heap.size + 1 + i < _; omega⟩
    have := (h.rows i hi).own (base := w.heap.size) (by omega) (by simp; omega)
    rw [List.length_replicate] at this
    exact this
  · obtain ⟨_, rfl⟩ := hg i ri hri
    obtain ⟨_, rfl⟩ := hg j rj hrj
    cases hgi
    have e5 : w.heap.size + 1 + j = w.heap.size + 1 + i := Option.some.inj hgj
    omega
set_option maxHeartbeats 800000 in
theorem blank_any (r n : Nat) (w : World) (hr1 : 1 ≤ r) (hr2 : r ≤ 255) (hn1 : 1 ≤ n) (hn2 : n ≤ 255) :
    Calls Tryd.prog 98 #[.int .i64 (r : Int), .int .i64 (n : Int)] w fun e w' => e = .returned (.slice (some ⟨w.heap.size, 0, none⟩) r r) ∧ MatO w' w.heap.size w'.heap.size (.slice (some ⟨w.heap.size, 0, none⟩) r r) (blankM r n) ∧ Below w.heap.size w w' := by
  obtain ⟨cs, Hcs, hmk⟩ := make_rows r (by omega)
  obtain ⟨ds, Hds, hmd⟩ := make_run n (by omega)
  have Hst := Lib.hid (BlankAt.start w r n Hcs.out)
  have Hb : Hid (1 ≤ r ∧ r ≤ 255 ∧ 1 ≤ n ∧ n ≤ 255) := ⟨hr1, hr2, hn1, hn2⟩
  clear hr1 hn1 hn2
  have hr' : (r : Int) ≤ 255 := by omega
  go_enter Tryd.func98, Tryd.ntmps98
  go_wp2_with fail
  go_loopw [6, 11] (fun _ iv wr => ∃ k : Nat, iv = .int .i64 (k : Int) ∧ k ≤ r ∧ Hid (BlankAt w r n k wr)) (fun _ iv _ => r - (intOf iv).toNat)
  case atStart => exact ⟨0, rfl, Nat.zero_le _, Hst.out⟩
  case round =>
    obtain ⟨k, rfl, hk, hrel⟩ := hrel
    by_cases hlt : k < r
    · have hlt' : (k : Int) < (r : Int) := by omega
      have hs := hrel.out.size
      have hc0 : wr.cell? ⟨w.heap.size, k, none⟩ = some (.slice none 0 0) := hrel.out.head.cell (by
        have hl : (rowsV w.heap.size n k).length = k := by simp [rowsV]
        rw [List.getElem?_append_right (by omega), hl, Nat.sub_self, List.getElem?_replicate]
        rw [if_pos (by omega)])
      have hf0 : wr.frozen? ⟨w.heap.size, k, none⟩ = false := hrel.out.head.frozen k
      have Hn := Lib.hid (hrel.out.step hlt Hds.out)
      have Hs := Lib.hid hs
      have hgl : w.heap.size < wr.heap.size := by omega
      have hc1 : (wr.alloc (.cells ds 5)).cell? ⟨w.heap.size, k, none⟩ = some (.slice none 0 0) := (World.cell?_alloc_lt wr _ ⟨w.heap.size, k, none⟩ hgl).trans hc0
      have hne : ¬ wr.heap.size = w.heap.size := by omega
      clear hs hlt hrel
      generalize w.heap.size = g at *
      go_wp2_with fail
      go_roundw
      case rel => exact ⟨k + 1, by go_num, by omega, Hn.out⟩
      case measure => simp [intOf]; omega
    · obtain rfl : k = r := by omega
      have Hd := Lib.hid (hrel.out.done Hb.out.2.1 Hb.out.2.2.1 Hb.out.2.2.2)
      have Hbe := Lib.hid hrel.out.bel
      clear hlt hrel
      go_wp2_with fail
      go_ret
      exact ⟨rfl, Hd.out, Hbe.out⟩
end Go.Proofs.YtlficcdbnmheeaaDoor

/-
  The program's units and pairs; the law's example.
-/
namespace Go.Proofs.YtlficcdbnmheeaaDoor
open Go.RowKit

set_option maxRecDepth 20000
/-- two rows, each written once, in either order -/
theorem MatO.two {w : World} {lo hi g n c : Nat} {M : List (List UInt8)} (h : MatO w lo hi (.slice (some ⟨g, 0, none⟩) n c) M) {i i' : Nat} {l l' : List UInt8} (hii : i ≠ i') (hl : M[i]? = some l) (hl' : M[i']? = some l') :
    ∃ b b' cb cb', RowAt w lo hi g i b cb l ∧ RowAt w lo hi g i' b' cb' l' ∧ b ≠ b' ∧ ∀ (j : Nat) (x : UInt8) (j' : Nat) (x' : UInt8),
      MatO ((w.setCell ⟨b, j, none⟩ (.int .u8 (x.toNat : Int))).setCell ⟨b', j', none⟩ (.int .u8 (x'.toNat : Int))) lo hi (.slice (some ⟨g, 0, none⟩) n c) ((M.set i (l.set j x)).set i' (l'.set j' x')) ∧
      MatO ((w.setCell ⟨b', j', none⟩ (.int .u8 (x'.toNat : Int))).setCell ⟨b, j, none⟩ (.int .u8 (x.toNat : Int))) lo hi (.slice (some ⟨g, 0, none⟩) n c) ((M.set i (l.set j x)).set i' (l'.set j' x')) := by
  obtain ⟨b, cb, h1, s1⟩ := h.row hl
  obtain ⟨b', cb', h2, s2⟩ := h.row hl'
  have hbb : b ≠ b' := by
    obtain ⟨rows, a, _, _, _, e⟩ := h
    rcases a.form with ⟨hv, _⟩ | ⟨g', cap', cur, hv, hb', hc, hn, hm, hlc, ht⟩
    · cases hv
    cases hv
    have get : ∀ (k : Nat) (r : Value), k < rows.length → w.cell? ⟨g, k, none⟩ = some r → rows[k]? = some r := fun k r hk hr => by
      have hx : cur[k]? = some r := by
        have hlt : k < cur.length := by omega
        have := hc.cell (List.getElem?_eq_getElem hlt)
        rw [hr] at this
        rw [List.getElem?_eq_getElem hlt]
        exact this.symm
      rw [← ht, List.getElem?_take_of_lt hk]
      exact hx
    have hlen : rows.length = M.length := by assumption
    have q1 := get i _ (by rw [hlen]; exact (List.getElem?_eq_some_iff.1 hl).1) h1.head
    have q2 := get i' _ (by rw [hlen]; exact (List.getElem?_eq_some_iff.1 hl').1) h2.head
    intro e'
    subst e'
    exact e i i' _ _ b hii q1 q2 rfl rfl
  refine ⟨b, b', cb, cb', h1, h2, hbb, fun j x j' x' => ⟨?_, ?_⟩⟩
  · obtain ⟨b2, c2, h3, s3⟩ := (s1 j x).row (i := i') (l := l') (by rw [List.getElem?_set_ne hii]; exact hl')
    have e1 : (w.setCell ⟨b, j, none⟩ (.int .u8 (x.toNat : Int))).cell? ⟨g, i', none⟩ = w.cell? ⟨g, i', none⟩ := World.cell?_of_block (w := w) (Below.heap_setCell _ _ _ _ (fun e' => h1.ne e'.symm))
    have e2 := h3.head
    rw [e1, h2.head] at e2
    have e3 : b2 = b' := by
      have := Option.some.inj e2
      have := (Value.slice.inj this).1
      simpa using this.symm
    rw [← e3]
    exact s3 j' x'
  · obtain ⟨b2, c2, h3, s3⟩ := (s2 j' x').row (i := i) (l := l) (by rw [List.getElem?_set_ne (fun e' => hii e'.symm)]; exact hl)
    have e1 : (w.setCell ⟨b', j', none⟩ (.int .u8 (x'.toNat : Int))).cell? ⟨g, i, none⟩ = w.cell? ⟨g, i, none⟩ := World.cell?_of_block (w := w) (Below.heap_setCell _ _ _ _ (fun e' => h2.ne e'.symm))
    have e2 := h3.head
    rw [e1, h1.head] at e2
    have e3 : b2 = b := by
      have := Option.some.inj e2
      have := (Value.slice.inj this).1
      simpa using this.symm
    rw [← e3, List.set_comm _ _ hii]
    exact s3 j x

def unitK (n k : Nat) : List (List UInt8) := (List.range n).map fun i => if i < k then (List.replicate n 0).set i 1 else List.replicate n 0
def unitM (n : Nat) : List (List UInt8) := (List.range n).map fun i => (List.replicate n 0).set i 1
theorem unitK_length (n k : Nat) : (unitK n k).length = n := by simp [unitK]
theorem unitK_zero (n : Nat) : blankM n n = unitK n 0 := by
  unfold blankM unitK
  apply List.ext_getElem?
  intro i
  rw [List.getElem?_replicate, List.getElem?_map]
  by_cases h : i < n
  · rw [if_pos h, List.getElem?_range h]; rfl
  · rw [if_neg h, List.getElem?_eq_none (by simp; omega)]; rfl
theorem unitK_get (n k i : Nat) (h : i < n) : (unitK n k)[i]? = some (if i < k then (List.replicate n 0).set i 1 else List.replicate n 0) := by
  unfold unitK
  rw [List.getElem?_map, List.getElem?_range h]; rfl
theorem unitK_step (n k : Nat) (h : k < n) : (unitK n k).set k ((List.replicate n 0).set k 1) = unitK n (k + 1) := by
  apply List.ext_getElem?
  intro i
  by_cases hi : i < n
  · rw [List.getElem?_set, unitK_get n (k + 1) i hi, unitK_get n k i hi, unitK_length]
    by_cases e : k = i
    · subst e
      rw [if_pos rfl, if_pos h, if_pos (by omega)]
    · rw [if_neg e]
      by_cases h2 : i < k
      · rw [if_pos h2, if_pos (by omega)]
      · rw [if_neg h2, if_neg (by omega)]
  · rw [List.getElem?_eq_none (by rw [List.length_set, unitK_length]; omega), List.getElem?_eq_none (by rw [unitK_length]; omega)]
theorem unitK_done (n : Nat) : unitK n n = unitM n := by
  unfold unitK unitM
  apply List.map_congr_left
  intro i hi
  rw [if_pos (by simpa using hi)]
def UnitRel (w : World) (lo hi g n k : Nat) (wr : World) : Prop := MatO wr lo hi (.slice (some ⟨g, 0, none⟩) n n) (unitK n k) ∧ Below w.heap.size w wr ∧ wr.heap.size = hi ∧ lo = w.heap.size
def MadeM (w : World) (n : Nat) (M : List (List UInt8)) (e : Ending) (w' : World) : Prop :=
  ∃ g, e = .returned (.tuple #[.slice (some ⟨g, 0, none⟩) n n, .int .i64 0]) ∧ MatO w' w.heap.size w'.heap.size (.slice (some ⟨g, 0, none⟩) n n) M ∧ Below w.heap.size w w'
theorem one_u8 : ((1 : UInt8).toNat : Int) = 1 := rfl
set_option maxHeartbeats 800000 in
theorem unit_any (n : Nat) (w : World) (h1 : 1 ≤ n) (h2 : n ≤ 255) :
    Calls Tryd.prog 119 #[.int .i64 (n : Int)] w (MadeM w n (unitM n)) := by
  have Hf := Lib.hid (fits_yes (n : Int) w (by omega) (by omega))
  have Hb := Lib.hid (blank_any n n w h1 h2 h1 h2)
  have hn' : (n : Int) ≤ 255 := by omega
  clear h1
  go_enter Tryd.func119, Tryd.ntmps119
  go_wp2_with (first
    | (go_at_call 97; refine Hf.out.mono ?_; rintro e w1 ⟨rfl, rfl⟩)
    | (go_at_call 98; refine Hb.out.mono ?_; rintro e w2 ⟨rfl, hm2, hb2⟩; have Hst : Hid (UnitRel w w.heap.size w2.heap.size w.heap.size n 0 w2) := ⟨by rw [← unitK_zero]; exact hm2, hb2, rfl, rfl⟩; clear hm2 hb2))
  generalize w2.heap.size = hi at *
  obtain ⟨g, hg⟩ : ∃ g, g = w.heap.size := ⟨_, rfl⟩
  obtain ⟨lo, hlo⟩ : ∃ lo, lo = w.heap.size := ⟨_, rfl⟩
  rw [← hg]
  have Hst2 : Hid (UnitRel w lo hi g n 0 w2) := by rw [hg, hlo]; exact Hst.out
  clear hg hlo Hst
  go_loopw [5, 14] (fun _ iv wr => ∃ k : Nat, iv = .int .i64 (k : Int) ∧ k ≤ n ∧ Hid (UnitRel w lo hi g n k wr)) (fun _ iv _ => n - (intOf iv).toNat)
  case atStart => exact ⟨0, rfl, Nat.zero_le _, Hst2.out⟩
  case round =>
    obtain ⟨k, rfl, hk, hrel⟩ := hrel
    by_cases hlt : k < n
    · have hlt' : (k : Int) < (n : Int) := by omega
      obtain ⟨r1, r2, r3, r4⟩ := hrel.out
      obtain ⟨b, c, hr, hset⟩ := r1.row (i := k) (l := List.replicate n 0) (by rw [unitK_get n k k hlt, if_neg (by omega)])
      have hc0 := hr.head
      rw [List.length_replicate] at hc0
      have hc1 := hr.cells k 0 (by rw [List.getElem?_replicate, if_pos hlt])
      have hf1 := hr.free k
      have hcl := hr.cap
      rw [List.length_replicate] at hcl
      have Hn : Hid (UnitRel w lo hi g n (k + 1) (wr.setCell ⟨b, k, none⟩ (.int .u8 1))) := by
        have := hset k 1
        rw [unitK_step n k hlt] at this
        exact ⟨this, r2.setCell (p := ⟨b, k, none⟩) (by rw [← r4]; exact hr.low) _, by simp [World.setCell, r3], r4⟩
      clear r1 r2 r3 r4 hr hset hrel hlt
      go_wp2_with fail
      go_roundw
      case rel => exact ⟨k + 1, by go_num, by omega, Hn.out⟩
      case measure => simp [intOf]; omega
    · obtain rfl : k = n := by omega
      have Hd : Hid (MatO wr w.heap.size wr.heap.size (.slice (some ⟨g, 0, none⟩) k k) (unitM k) ∧ Below w.heap.size w wr) := by
        obtain ⟨r1, r2, r3, r4⟩ := hrel.out
        rw [unitK_done, ← r3, r4] at r1
        exact ⟨r1, r2⟩
      clear hlt hrel
      go_wp2_with fail
      go_ret2
      exact ⟨g, rfl, Hd.out.1, Hd.out.2⟩
theorem unit_bad (n : Int) (w : World) (h : n < 1 ∨ 255 < n) :
    Calls Tryd.prog 119 #[.int .i64 n] w fun e w' => e = .returned (.tuple #[.slice none 0 0, .int .i64 1]) ∧ w = w' := by
  have Hf := Lib.hid (fits_no n w h)
  clear h
  go_enter Tryd.func119, Tryd.ntmps119
  go_wp2_with (first
    | (go_at_call 97; refine Hf.out.mono ?_; rintro e w1 ⟨rfl, rfl⟩))
  go_ret2
  exact ⟨rfl, rfl⟩

def pwr (j : Nat) : UInt8 := UInt8.ofNat (ex j)
theorem pwr_nat (j : Nat) : (pwr j).toNat = ex j := by
  unfold pwr
  rw [UInt8.toNat_ofNat']
  exact Nat.mod_eq_of_lt (ex_lt j)
def pairsK (n k : Nat) : List (List UInt8) := [List.replicate k 1 ++ List.replicate (n - k) 0, (List.range k).map pwr ++ List.replicate (n - k) 0]
def pairsM (n : Nat) : List (List UInt8) := [List.replicate n 1, (List.range n).map pwr]
theorem pairsK_zero (n : Nat) : blankM 2 n = pairsK n 0 := by simp [blankM, pairsK, List.replicate_succ]
theorem pairsK_done (n : Nat) : pairsK n n = pairsM n := by simp [pairsK, pairsM]
theorem pairs_step0 (n k : Nat) (h : k < n) : (List.replicate k (1 : UInt8) ++ List.replicate (n - k) 0).set k 1 = List.replicate (k + 1) 1 ++ List.replicate (n - (k + 1)) 0 := by
  rw [List.set_append_right _ _ (by simp), List.length_replicate, Nat.sub_self]
  obtain ⟨m, hm⟩ : ∃ m, n - k = m + 1 := ⟨n - k - 1, by omega⟩
  rw [hm, show n - (k + 1) = m by omega, List.replicate_succ' (n := k)]
  simp [List.replicate_succ]
theorem pairs_step1 (n k : Nat) (h : k < n) : ((List.range k).map pwr ++ List.replicate (n - k) 0).set k (pwr k) = (List.range (k + 1)).map pwr ++ List.replicate (n - (k + 1)) 0 := by
  rw [List.set_append_right _ _ (by simp), List.length_map, List.length_range, Nat.sub_self]
  obtain ⟨m, hm⟩ : ∃ m, n - k = m + 1 := ⟨n - k - 1, by omega⟩
  rw [hm, show n - (k + 1) = m by omega, List.range_succ]
  simp [List.replicate_succ]
def PairRel (w : World) (lo hi g n k : Nat) (wr : World) : Prop := MatO wr lo hi (.slice (some ⟨g, 0, none⟩) 2 2) (pairsK n k) ∧ Below w.heap.size w wr ∧ wr.heap.size = hi ∧ lo = w.heap.size
theorem pair_facts {w wr : World} {lo hi g n k : Nat} (h : PairRel w lo hi g n k wr) (hk : k < n) :
    ∃ b b' c c', b ≠ b' ∧ b ≠ g ∧ b' ≠ g ∧ n ≤ c ∧ n ≤ c' ∧ wr.cell? ⟨g, 0, none⟩ = some (.slice (some ⟨b, 0, none⟩) n c) ∧ wr.cell? ⟨g, 1, none⟩ = some (.slice (some ⟨b', 0, none⟩) n c') ∧ wr.cell? ⟨b, k, none⟩ = some (.int .u8 0) ∧ wr.cell? ⟨b', k, none⟩ = some (.int .u8 0) ∧ wr.frozen? ⟨b, k, none⟩ = false ∧ wr.frozen? ⟨b', k, none⟩ = false ∧
      ∀ q, PairRel w lo hi g n (k + 1) (((wr.setCell ⟨b, k, none⟩ (.int .u8 1)).setCell ⟨b', k, none⟩ (.int .u8 ((ex k : Nat) : Int))).drewN q) ∧ PairRel w lo hi g n (k + 1) (((wr.setCell ⟨b', k, none⟩ (.int .u8 ((ex k : Nat) : Int))).setCell ⟨b, k, none⟩ (.int .u8 1)).drewN q) := by
  obtain ⟨r1, r2, r3, r4⟩ := h
  obtain ⟨b, b', c, c', h1, h2, hne, hs⟩ := r1.two (i := 0) (i' := 1) (by omega) rfl rfl
  have l1 : (List.replicate k (1 : UInt8) ++ List.replicate (n - k) 0).length = n := by simp; omega
  have l2 : ((List.range k).map pwr ++ List.replicate (n - k) 0).length = n := by simp; omega
  have g1 := h1.head
  have g2 := h2.head
  rw [l1] at g1
  rw [l2] at g2
  refine ⟨b, b', c, c', hne, h1.ne, h2.ne, by have := h1.cap; omega, by have := h2.cap; omega, g1, g2, h1.cells k 0 ?_, h2.cells k 0 ?_, h1.free k, h2.free k, fun q => ?_⟩
  · rw [List.getElem?_append_right (by simp), List.length_replicate, Nat.sub_self, List.getElem?_replicate, if_pos (by omega)]
  · rw [List.getElem?_append_right (by simp), List.length_map, List.length_range, Nat.sub_self, List.getElem?_replicate, if_pos (by omega)]
  · obtain ⟨s1, s2⟩ := hs k 1 k (pwr k)
    have e : ((pairsK n k).set 0 ((List.replicate k (1 : UInt8) ++ List.replicate (n - k) 0).set k 1)).set 1 (((List.range k).map pwr ++ List.replicate (n - k) 0).set k (pwr k)) = pairsK n (k + 1) := by
      rw [pairs_step0 n k hk, pairs_step1 n k hk]
      rfl
    rw [e, pwr_nat] at s1 s2
    have b1 : w.heap.size ≤ b := by rw [← r4]; exact h1.low
    have b2 : w.heap.size ≤ b' := by rw [← r4]; exact h2.low
    have m1 := (r2.setCell (p := ⟨b, k, none⟩) b1 (.int .u8 1)).setCell (p := ⟨b', k, none⟩) b2 (.int .u8 ((ex k : Nat) : Int))
    have m2 := (r2.setCell (p := ⟨b', k, none⟩) b2 (.int .u8 ((ex k : Nat) : Int))).setCell (p := ⟨b, k, none⟩) b1 (.int .u8 1)
    exact ⟨⟨s1.drewN q, ⟨m1.os, m1.tape, m1.output, m1.size, m1.block⟩, by simp [World.setCell, World.drewN, r3], r4⟩, ⟨s2.drewN q, ⟨m2.os, m2.tape, m2.output, m2.size, m2.block⟩, by simp [World.setCell, World.drewN, r3], r4⟩⟩
def MadeP (w : World) (M : List (List UInt8)) (e : Ending) (w' : World) : Prop :=
  ∃ g, e = .returned (.tuple #[.slice (some ⟨g, 0, none⟩) 2 2, .int .i64 0]) ∧ MatO w' w.heap.size w'.heap.size (.slice (some ⟨g, 0, none⟩) 2 2) M ∧ Below w.heap.size w w'
set_option maxHeartbeats 800000 in
theorem pairs_any (n : Nat) (w : World) (h1 : 1 ≤ n) (h2 : n ≤ 255) :
    Calls Tryd.prog 78 #[.int .i64 (n : Int)] w (MadeP w (pairsM n)) := by
  have Hf := Lib.hid (fits_yes (n : Int) w (by omega) (by omega))
  have Hb : Hid (Calls Tryd.prog 98 #[.int .i64 2, .int .i64 (n : Int)] w fun e w' => e = .returned (.slice (some ⟨w.heap.size, 0, none⟩) 2 2) ∧ MatO w' w.heap.size w'.heap.size (.slice (some ⟨w.heap.size, 0, none⟩) 2 2) (blankM 2 n) ∧ Below w.heap.size w w') := blank_any 2 n w (by omega) (by omega) h1 h2
  have Ht : Hid (∀ (k : Nat) (W : World), Calls Tryd.prog 99 #[.int .u8 ((ex k : Nat) : Int)] W fun e w' => e = .returned (.int .u8 ((ex (k + 1) : Nat) : Int)) ∧ W = w') := fun k W => twice_any (ex k) W (ex_lt k)
  have hn' : (n : Int) ≤ 255 := by omega
  clear h1
  go_enter Tryd.func78, Tryd.ntmps78
  go_wp2_with (first
    | (go_at_call 97; refine Hf.out.mono ?_; rintro e w1 ⟨rfl, rfl⟩)
    | (go_at_call 98; refine Hb.out.mono ?_; rintro e w2 ⟨rfl, hm2, hb2⟩; have Hst : Hid (PairRel w w.heap.size w2.heap.size w.heap.size n 0 w2) := ⟨by rw [← pairsK_zero]; exact hm2, hb2, rfl, rfl⟩; clear hm2 hb2))
  generalize w2.heap.size = hi at *
  obtain ⟨g, hg⟩ : ∃ g, g = w.heap.size := ⟨_, rfl⟩
  obtain ⟨lo, hlo⟩ : ∃ lo, lo = w.heap.size := ⟨_, rfl⟩
  rw [← hg]
  have Hst2 : Hid (PairRel w lo hi g n 0 w2) := by rw [hg, hlo]; exact Hst.out
  clear hg hlo Hst
  go_loopw [5, 6, 13] (fun pv _ iv wr => ∃ k p : Nat, pv = .int .u8 (p : Int) ∧ iv = .int .i64 (k : Int) ∧ k ≤ n ∧ Hid (p = ex k ∧ PairRel w lo hi g n k wr)) (fun _ _ iv _ => n - (intOf iv).toNat)
  case atStart => exact ⟨0, 1, rfl, rfl, Nat.zero_le _, rfl, Hst2.out⟩
  case round =>
    obtain ⟨k, p, rfl, rfl, hk, hrel⟩ := hrel
    by_cases hlt : k < n
    · have hlt' : (k : Int) < (n : Int) := by omega
      obtain ⟨hp, hrel2⟩ := hrel.out
      obtain ⟨b, b', c, c', n1, n2, n3, l1, l2, q1, q2, q3, q4, q5, q6, hst⟩ := pair_facts hrel2 hlt
      rw [← hp] at hst
      have Hs := Lib.hid hst
      have Hc : Hid (∀ W : World, Calls Tryd.prog 99 #[.int .u8 (p : Int)] W fun e w' => e = .returned (.int .u8 ((ex (k + 1) : Nat) : Int)) ∧ W = w') := fun W => by
        rw [hp]
        exact Ht.out k W
      have n4 : b' ≠ b := fun e' => n1 e'.symm
      clear hst hrel2 hrel hlt hp
      go_wp2_with fail
      go_region
      all_goals
        go_wp2_with (go_at_call 99; refine (Hc.out _).mono ?_; rintro e w1 ⟨rfl, rfl⟩)
        go_roundw
        case rel => exact ⟨k + 1, ex (k + 1), rfl, by go_num, by omega, rfl, by first | exact (Hs.out 1).1 | exact (Hs.out 1).2⟩
        case measure => simp [intOf]; omega
    · obtain rfl : k = n := by omega
      have Hd : Hid (MatO wr w.heap.size wr.heap.size (.slice (some ⟨g, 0, none⟩) 2 2) (pairsM k) ∧ Below w.heap.size w wr) := by
        obtain ⟨_, r1, r2, r3, r4⟩ := hrel.out
        rw [pairsK_done, ← r3, r4] at r1
        exact ⟨r1, r2⟩
      clear hlt hrel
      go_wp2_with fail
      go_ret2
      exact ⟨g, rfl, Hd.out.1, Hd.out.2⟩
theorem pairs_bad (n : Int) (w : World) (h : n < 1 ∨ 255 < n) :
    Calls Tryd.prog 78 #[.int .i64 n] w fun e w' => e = .returned (.tuple #[.slice none 0 0, .int .i64 1]) ∧ w = w' := by
  have Hf := Lib.hid (fits_no n w h)
  clear h
  go_enter Tryd.func78, Tryd.ntmps78
  go_wp2_with (first
    | (go_at_call 97; refine Hf.out.mono ?_; rintro e w1 ⟨rfl, rfl⟩))
  go_ret2
  exact ⟨rfl, rfl⟩
end Go.Proofs.YtlficcdbnmheeaaDoor

/-
  The law's example; GfReckons, GfLaws, GfPowers, walked.
-/
namespace Go.Proofs.YtlficcdbnmheeaaDoor
open Go.RowKit

set_option maxRecDepth 20000
theorem drewN_below {B : Nat} {w w' : World} (h : Below B w w') (n : Nat) : Below B w (w'.drewN n) := ⟨h.os, h.tape, h.output, h.size, h.block⟩
theorem div_mul (a b : Nat) (ha : a < 256) (hb : b < 256) (h : b ≠ 0) : divV (gm a b) b = a ∧ divE b = 0 := by
  refine ⟨?_, by unfold divE; rw [if_neg h]⟩
  unfold divV
  rw [if_neg h, ← gm_assoc ha hb (gi_lt b), gm_gi hb h, gm_one_right ha]
theorem pow_two (a : Nat) (ha : a < 256) (h : a ≠ 0) : powV 2 (lg a : Int) = a ∧ powE 2 (lg a : Int) = 0 := by
  have hl := lg_lt ha h
  refine ⟨?_, by unfold powE; rw [if_neg (by omega)]⟩
  unfold powV
  rw [if_neg (by omega), show kOf (lg a : Int) = lg a by unfold kOf; omega, show (2 : Nat) = ex 1 from rfl, gpow_ex, Nat.one_mul, ex_lg ha h]
end Go.Proofs.YtlficcdbnmheeaaDoor

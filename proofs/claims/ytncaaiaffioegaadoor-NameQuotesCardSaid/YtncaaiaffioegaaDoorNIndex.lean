/-
  Where the first blank of a text stands; is a rune of a list barred.
-/
import Derived.Test.YtncaaiaffioegaaDoorNRunes2
namespace Go.Proofs.YtncaaiaffioegaaDoor
open Go.RowKit

theorem ret_bool {a b : Bool} (h : a = b) : Ending.returned (.bool a) = .returned (.bool b) := by rw [h]
def barredB (r : Nat) : Bool := decide (r < 33 ∨ r = 34 ∨ r = 47 ∨ r = 92 ∨ (127 ≤ r ∧ r ≤ 159) ∨ r = 65533)
def blankN (r : Nat) : Bool := decide (r = 32 ∨ r = 9 ∨ r = 10 ∨ r = 13)

set_option maxRecDepth 20000 in
set_option maxHeartbeats 400000 in
theorem barred_any (r : Nat) (w : World) (hr : r ≤ 1114111) :
    Calls Tryd.prog 25 #[.int .i32 (r : Int)] w fun e w' => e = .returned (.bool (barredB r)) ∧ w = w' := by
  go_enter Tryd.func25, Tryd.ntmps25
  go_wp2_with fail
  all_goals
    go_ret
    refine ⟨ret_bool ?_, rfl⟩
    unfold barredB
    rw [Bool.eq_iff_iff]
    simp at *
    omega

set_option maxRecDepth 20000 in
set_option maxHeartbeats 400000 in
theorem blank_fn (r : Nat) (w : World) (hr : r ≤ 1114111) :
    Calls Tryd.prog 31 #[.int .i32 (r : Int)] w fun e w' => e = .returned (.bool (blankN r)) ∧ w = w' := by
  go_enter Tryd.func31, Tryd.ntmps31
  go_wp2_with fail
  all_goals
    go_ret
    refine ⟨ret_bool ?_, rfl⟩
    unfold blankN
    rw [Bool.eq_iff_iff]
    simp at *
    omega

/-- a rune is a blank just if its bytes begin with one -/
theorem blank_step (l : List UInt8) (pos : Nat) (h : pos < l.length) :
    (blankN (dec (l.drop pos)).1 = true → blankB l[pos] = true) ∧
    (blankN (dec (l.drop pos)).1 = false → ∀ x ∈ (l.drop pos).take (dec (l.drop pos)).2, blankB x = false) := by
  have hg := seg_good _ (drop_ne h)
  have hcons : l.drop pos = l[pos] :: l.drop (pos + 1) := List.drop_eq_getElem_cons h
  have hp := dec_pos (l.drop pos)
  have key : seg (l.drop pos) = ⟨(l.drop pos).take (dec (l.drop pos)).2, (dec (l.drop pos)).1, (one (l.drop pos)).2 != 0⟩ := rfl
  rw [key] at hg
  generalize (dec (l.drop pos)).2 = n at hg hp ⊢
  generalize (dec (l.drop pos)).1 = r at hg ⊢
  generalize ((one (l.drop pos)).2 != 0) = ok at hg
  have hhead : ((l.drop pos).take n).head? = some l[pos] := by
    rw [hcons]
    obtain ⟨m, rfl⟩ : ∃ m, n = m + 1 := ⟨n - 1, by omega⟩
    rfl
  generalize (l.drop pos).take n = b at hg hhead ⊢
  have hbN : ∀ x : UInt8, blankN x.toNat = blankB x := fun x => by
    unfold blankN blankB
    rw [Bool.eq_iff_iff]
    simp
    omega
  cases hg with
  | low x hx =>
    rw [hbN]
    simp at hhead
    subst hhead
    exact ⟨fun h => h, fun h y hy => by simp at hy; rw [hy]; exact h⟩
  | high bs v h2 h4 hv hm hs hb he =>
    refine ⟨fun h => ?_, fun _ x hx => ?_⟩
    · unfold blankN at h; simp at h; omega
    · have := hb x hx
      unfold blankB
      simp
      omega
  | torn x hx =>
    refine ⟨fun h => ?_, fun _ y hy => ?_⟩
    · unfold blankN at h; simp at h
    · simp at hy
      subst hy
      unfold blankB
      simp
      omega
/-- where the first blank stands; -1: there is none -/
def idxB (l : List UInt8) : Int := if l.all (fun x => !blankB x) then -1 else ((l.takeWhile fun x => !blankB x).length : Int)
theorem idxB_here (l : List UInt8) (pos : Nat) (h : pos < l.length) (ha : ∀ x ∈ l.take pos, blankB x = false) (hb : blankB l[pos] = true) : idxB l = (pos : Int) := by
  have hs : l = l.take pos ++ l[pos] :: l.drop (pos + 1) := by rw [← List.drop_eq_getElem_cons h, List.take_append_drop]
  unfold idxB
  rw [if_neg]
  · have : (l.takeWhile fun x => !blankB x) = l.take pos := by
      conv => lhs; rw [hs]
      rw [List.takeWhile_append_of_pos (by intro x hx; simp [ha x hx]), List.takeWhile_cons]
      simp [hb]
    rw [this, List.length_take, Nat.min_eq_left (by omega)]
  · rw [List.all_eq_true]
    intro hall
    have := hall l[pos] (List.getElem_mem h)
    simp [hb] at this
theorem idxB_none (l : List UInt8) (ha : ∀ x ∈ l.take l.length, blankB x = false) : idxB l = -1 := by
  rw [List.take_length] at ha
  unfold idxB
  rw [if_pos]
  rw [List.all_eq_true]
  intro x hx
  simp [ha x hx]

set_option maxRecDepth 20000 in
set_option maxHeartbeats 400000 in
theorem indexfunc_any (s : ByteArray) (w : World) (hs : s.size ≤ 1099511627776) :
    Calls Tryd.prog 37 #[.string s, .func (.func 31) #[] #[], .bool true] w fun e w' => e = .returned (.int .i64 (idxB s.data.toList)) ∧ Below w.heap.size w w' := by
  obtain ⟨l, hl⟩ : ∃ l, l = s.data.toList := ⟨_, rfl⟩
  have Hl := Lib.hid hl
  have Hsl : Hid (l.length = s.size) := by show _ = _; rw [hl]; rfl
  rw [← hl]
  clear hl
  go_enter Tryd.func37, Tryd.ntmps37
  go_wp2_with fail
  go_loopw [] (fun wr => ∃ pos : Nat, pos ≤ s.size ∧ Hid (wr.heap[w.heap.size]? = some (.stringIter s pos)) ∧ Hid (Below w.heap.size w wr) ∧ Hid (∀ x ∈ l.take pos, blankB x = false)) (fun wr => s.size - wr.iterPos w.heap.size)
  case atStart => exact ⟨0, Nat.zero_le _, World.iter_heap w s 0, (Below.refl _ w).alloc (Nat.le_refl _) _, fun x hx => by simp at hx⟩
  case round =>
    obtain ⟨pos, hpos, hit, hbel, hno⟩ := hrel
    by_cases hp : pos < s.size
    · have hpl : pos < l.length := by rw [Hsl.out]; exact hp
      have hnx := fun ty => next_at hit.out hp ty
      rw [← Hl.out] at hnx
      have hdl := dec_le _ (drop_ne hpl)
      rw [List.length_drop, Hsl.out] at hdl
      have hdp := dec_pos (l.drop pos)
      have hrl := dec_lt (l.drop pos)
      have Hst := Lib.hid (blank_step l pos hpl)
      generalize dec (l.drop pos) = d at hnx hdl hdp hrl Hst
      obtain ⟨r, k⟩ := d
      dsimp only at hnx hdl hdp hrl Hst
      have Hit2 := Lib.hid (Lib.iterAt_heap wr w.heap.size s pos (pos + k) hit.out)
      have Hbel2 : Hid (Below w.heap.size w (wr.iterAt w.heap.size s (pos + k))) := Lib.below_iterAt hbel.out (Nat.le_refl _) s (pos + k)
      have Hbl : Hid (∀ W, Calls Tryd.prog 31 #[.int .i32 (r : Int)] W fun e w' => e = .returned (.bool (blankN r)) ∧ W = w') := fun W => blank_fn r W hrl
      cases hbn : blankN r with
      | true =>
        rw [hbn] at Hbl
        have Hres := Lib.hid (idxB_here l pos hpl hno.out (Hst.out.1 hbn))
        clear hbn Hst
        go_wp2_with (go_at_call 31; refine (Hbl.out _).mono ?_; rintro e w' ⟨rfl, rfl⟩)
        go_ret
        exact ⟨by rw [Hres.out]; rfl, Hbel2.out⟩
      | false =>
        rw [hbn] at Hbl
        have Hno2 : Hid (∀ x ∈ l.take (pos + k), blankB x = false) := by
          intro x hx
          rw [List.take_add, List.mem_append] at hx
          rcases hx with hx | hx
          · exact hno.out x hx
          · exact Hst.out.2 hbn x hx
        clear hbn Hst
        go_wp2_with (go_at_call 31; refine (Hbl.out _).mono ?_; rintro e w' ⟨rfl, rfl⟩)
        go_roundw
        case rel => exact ⟨pos + k, by omega, Hit2.out, Hbel2.out, Hno2.out⟩
        case measure =>
          rw [iterPos_of Hit2.out, iterPos_of hit.out]
          omega
    · have hnx : ∀ ty, (Instr.next (.pointer (some ⟨w.heap.size, 0, none⟩)) true ty).run Tryd.prog wr = .ok (.tuple #[.bool false]) wr := fun ty => Lib.run_next_end_at wr w.heap.size s pos ty hit.out hp
      obtain rfl : pos = s.size := by omega
      have hn2 := hno.out
      rw [← Hsl.out] at hn2
      have Hres := Lib.hid (idxB_none l hn2)
      clear hn2
      go_wp2_with fail
      go_ret
      exact ⟨by rw [Hres.out]; rfl, hbel.out⟩

set_option maxRecDepth 20000 in
set_option maxHeartbeats 400000 in
theorem index_any (s : ByteArray) (w : World) (hs : s.size ≤ 1099511627776) :
    Calls Tryd.prog 30 #[.string s, .func (.func 31) #[] #[]] w fun e w' => e = .returned (.int .i64 (idxB s.data.toList)) ∧ Below w.heap.size w w' := by
  go_enter Tryd.func30, Tryd.ntmps30
  go_wp2_with fail
  refine (indexfunc_any s w hs).mono ?_
  rintro e w1 ⟨rfl, hb⟩
  have Hb := Lib.hid hb
  clear hb
  go_wp2_with fail
  go_ret
  exact ⟨rfl, Hb.out⟩

/-! ### A list of runes -/
def anyBarred (L : List Nat) : Bool := L.any barredB
set_option maxRecDepth 20000 in
set_option maxHeartbeats 400000 in
theorem sindex_any (A : Option Addr) (c : Nat) (L : List Nat) (w : World) (hL : L.length ≤ 1099511627776) (hr : ∀ i u, (i32s L)[i]? = some u → ∃ b, A = some ⟨b, 0, none⟩ ∧ b < w.heap.size ∧ w.cell? ⟨b, i, none⟩ = some u) (hm : ∀ r ∈ L, r ≤ 1114111) :
    Calls Tryd.prog 34 #[.slice A L.length c, .func (.func 25) #[] #[]] w fun e w' => ∃ i : Int, e = .returned (.int .i64 i) ∧ ((0 : Int) ≤ i ↔ anyBarred L = true) ∧ w = w' := by
  have Hr := Lib.hid hr
  have Hm := Lib.hid hm
  have hL' : (L.length : Int) ≤ 1099511627776 := by omega
  clear hr hm
  go_enter Tryd.func34, Tryd.ntmps34
  go_wp2_with fail
  go_loop [8] (fun i => ∃ k : Nat, k ≤ L.length ∧ i = .int .i64 (k : Int) ∧ Hid (∀ r ∈ L.take k, barredB r = false)) (fun i => (L.length - intOf i).toNat)
  case atStart => exact ⟨0, by omega, rfl, fun r hr => by simp at hr⟩
  case round =>
    obtain ⟨k, hk, rfl, hno⟩ := hrel
    by_cases hkl : k < L.length
    · obtain ⟨b, rfl, hb, hc⟩ := Hr.out k _ (by rw [i32s, List.getElem?_map, List.getElem?_eq_getElem hkl]; rfl)
      have Htk : Hid (L.take (k + 1) = L.take k ++ [L[k]]) := List.take_succ_eq_append_getElem hkl
      have hmem := List.getElem_mem hkl
      have hrl := Hm.out _ hmem
      have Hmem := Lib.hid hmem
      generalize L[k] = r at hc Htk hrl Hmem
      have Hbl : Hid (∀ W, Calls Tryd.prog 25 #[.int .i32 (r : Int)] W fun e w' => e = .returned (.bool (barredB r)) ∧ W = w') := fun W => barred_any r W hrl
      clear hmem hb
      cases hbn : barredB r with
      | true =>
        rw [hbn] at Hbl
        have Hany : Hid (anyBarred L = true) := by
          show L.any barredB = true
          exact List.any_eq_true.2 ⟨r, Hmem.out, hbn⟩
        clear hbn
        go_wp2_with (go_at_call 25; refine (Hbl.out _).mono ?_; rintro e w' ⟨rfl, rfl⟩)
        go_ret
        exact ⟨_, rfl, by rw [Hany.out]; simp, rfl⟩
      | false =>
        rw [hbn] at Hbl
        have Hno2 : Hid (∀ r' ∈ L.take (k + 1), barredB r' = false) := by
          intro x hx
          rw [Htk.out, List.mem_append] at hx
          rcases hx with hx | hx
          · exact hno.out x hx
          · simp at hx; rw [hx]; exact hbn
        clear hbn
        go_wp2_with (go_at_call 25; refine (Hbl.out _).mono ?_; rintro e w' ⟨rfl, rfl⟩)
        go_round
        case rel => exact ⟨k + 1, by omega, by go_num, Hno2.out⟩
        case measure => simp [intOf]; omega
    · obtain rfl : k = L.length := by omega
      have Hany : Hid (anyBarred L = false) := by
        have := hno.out
        rw [List.take_length] at this
        show L.any barredB = false
        rw [List.any_eq_false]
        intro x hx
        simp [this x hx]
      go_wp2_with fail
      go_ret
      exact ⟨_, rfl, by rw [Hany.out]; simp, rfl⟩
set_option maxRecDepth 20000 in
set_option maxHeartbeats 400000 in
theorem contains_any (A : Option Addr) (c : Nat) (L : List Nat) (w : World) (hL : L.length ≤ 1099511627776) (hr : ∀ i u, (i32s L)[i]? = some u → ∃ b, A = some ⟨b, 0, none⟩ ∧ b < w.heap.size ∧ w.cell? ⟨b, i, none⟩ = some u) (hm : ∀ r ∈ L, r ≤ 1114111) :
    Calls Tryd.prog 24 #[.slice A L.length c, .func (.func 25) #[] #[]] w fun e w' => e = .returned (.bool (anyBarred L)) ∧ w = w' := by
  have Hc := Lib.hid (sindex_any A c L w hL hr hm)
  clear hr hm
  go_enter Tryd.func24, Tryd.ntmps24
  go_wp2_with fail
  refine Hc.out.mono ?_
  rintro e w' ⟨i, rfl, hi, rfl⟩
  have Hi : Hid (decide ((0 : Int) ≤ i) = anyBarred L) := by show _ = _; rw [Bool.eq_iff_iff]; simpa using hi
  clear hi Hc
  go_wp2_with fail
  go_ret
  exact ⟨by rw [← Hi.out]; rfl, rfl⟩
end Go.Proofs.YtncaaiaffioegaaDoor

/-
  spread walked: a word for each round of a block.
-/
import Derived.Test.YtabhpgacnenacaaDoorSh2
import Derived.Test.YtabhpgacnenacaaDoorShRow
import Derived.StillTailTactics
import Derived.Deep.RegionHeldLaw
namespace Go.Proofs.YtabhpgacnenacaaDoor
open Go.RowKit

/-- words as values -/
def wv (ms : List UInt32) : List Value := ms.map fun x => .int .u32 (nv x)
theorem wv_len (ms : List UInt32) : (wv ms).length = ms.length := by simp [wv]
theorem wv_at {ms : List UInt32} {i : Nat} {x : UInt32} (h : ms[i]? = some x) : (wv ms)[i]? = some (.int .u32 (nv x)) := by simp [wv, h]
theorem wv_set (ms : List UInt32) (i : Nat) (x : UInt32) : (wv ms).set i (.int .u32 (nv x)) = wv (ms.set i x) := by simp [wv, List.map_set]
/-- with zeros behind it -/
def padW (ms : List UInt32) : List UInt32 := ms ++ List.replicate (64 - ms.length) 0
theorem padW_len {ms : List UInt32} (h : ms.length ≤ 64) : (padW ms).length = 64 := by simp [padW]; omega
theorem padW_at {ms : List UInt32} {i : Nat} {x : UInt32} (h : ms[i]? = some x) : (padW ms)[i]? = some x := by
  have := (List.getElem?_eq_some_iff.1 h).1
  unfold padW
  rw [List.getElem?_append_left this, h]
theorem padW_set {ms : List UInt32} (h : ms.length < 64) (x : UInt32) : (padW ms).set ms.length x = padW (ms ++ [x]) := by
  unfold padW
  rw [List.set_append_right _ _ (Nat.le_refl _), Nat.sub_self]
  obtain ⟨k, hk⟩ : ∃ k, 64 - ms.length = k + 1 := ⟨63 - ms.length, by omega⟩
  rw [hk, List.replicate_succ, List.set_cons_zero, List.append_assoc]
  congr 2
  simp
  omega
theorem padW_full {ms : List UInt32} (h : ms.length = 64) : padW ms = ms := by unfold padW; rw [h]; simp
theorem words4_len : ∀ (n : Nat) (l : List UInt8), l.length = 4 * n → (words4 l).length = n
  | 0, [], _ => rfl
  | n + 1, a :: b :: c :: d :: l, h => by
    show (words4 l).length + 1 = n + 1
    rw [words4_len n l (by simp at h; omega)]
  | 0, _ :: _, h => by simp at h
  | n + 1, [], h => by simp at h
  | n + 1, [_], h => by simp at h; omega
  | n + 1, [_, _], h => by simp at h; omega
  | n + 1, [_, _, _], h => by simp at h; omega
theorem words4_at : ∀ (i : Nat) (l : List UInt8) (a b c d : UInt8), l[4 * i]? = some a → l[4 * i + 1]? = some b → l[4 * i + 2]? = some c → l[4 * i + 3]? = some d → (words4 l)[i]? = some (word4 a b c d)
  | 0, a :: b :: c :: d :: l, _, _, _, _, h1, h2, h3, h4 => by
    simp at h1 h2 h3 h4
    subst h1 h2 h3 h4
    rfl
  | i + 1, x :: y :: z :: t :: l, a, b, c, d, h1, h2, h3, h4 => by
    show (words4 l)[i]? = _
    refine words4_at i l a b c d ?_ ?_ ?_ ?_
    · rw [show 4 * (i + 1) = 4 * i + 1 + 1 + 1 + 1 from by omega] at h1; simpa using h1
    · rw [show 4 * (i + 1) + 1 = 4 * i + 1 + 1 + 1 + 1 + 1 from by omega] at h2; simpa using h2
    · rw [show 4 * (i + 1) + 2 = 4 * i + 2 + 1 + 1 + 1 + 1 from by omega] at h3; simpa using h3
    · rw [show 4 * (i + 1) + 3 = 4 * i + 3 + 1 + 1 + 1 + 1 from by omega] at h4; simpa using h4
  | i, [], _, _, _, _, h1, _, _, _ => by simp at h1
  | i, [_], _, _, _, _, _, h2, _, _ => by simp at h2
  | i, [_, _], _, _, _, _, _, _, h3, _ => by simp at h3
  | i, [_, _, _], _, _, _, _, _, _, _, h4 => by simp at h4
theorem wv_one (ms : List UInt32) : ∀ u ∈ wv ms, u.oneCell' = true := by
  intro u hu
  simp only [wv, List.mem_map] at hu
  obtain ⟨x, _, rfl⟩ := hu
  rfl
/-- the two arrays under way: what is told, and m -/
structure SpSt (w wr : World) (ms : List UInt32) : Prop where
  c0 : Cells wr w.heap.size 54 (wv (padW []))
  c1 : Cells wr (w.heap.size + 1) 54 (wv (padW ms))
  bel : Below w.heap.size w wr
theorem SpSt.drewN {w wr : World} {ms : List UInt32} (h : SpSt w wr ms) (n : Nat) : SpSt w (wr.drewN n) ms := ⟨h.c0, h.c1, h.bel.trans ⟨rfl, rfl, rfl, Nat.le_refl _, fun _ _ => rfl⟩⟩
theorem SpSt.move' {w wr wr' : World} {ms : List UInt32} (h : SpSt w wr ms) (e : wr'.heap = wr.heap) (eo : wr'.os = wr.os := by rfl) (et : wr'.tape = wr.tape := by rfl) (ep : wr'.output = wr.output := by rfl) : SpSt w wr' ms :=
  ⟨h.c0.move (by rw [e]), h.c1.move (by rw [e]), h.bel.trans ⟨eo, et, ep, by rw [e]; exact Nat.le_refl _, fun _ _ => by rw [e]⟩⟩
theorem SpSt.put {w wr : World} {ms : List UInt32} (h : SpSt w wr ms) (hl : ms.length < 64) (x : UInt32) : SpSt w (wr.setCell ⟨w.heap.size + 1, ms.length, none⟩ (.int .u32 (nv x))) (ms ++ [x]) := by
  refine ⟨h.c0.move (Below.heap_setCell _ _ _ _ (by simp)), ?_, h.bel.setCell (by simp) _⟩
  have := h.c1.set ms.length (.int .u32 (nv x))
  rwa [wv_set, padW_set hl] at this
section
attribute [local go_sem] u32_xor u32_and u32_or u32_add u32_of8 u32_shl24 u32_shl16 u32_shl8 u32_shr3 u32_shr10
set_option maxRecDepth 100000
set_option maxHeartbeats 1000000
theorem spread_any (b o : Nat) (l : List UInt8) (c : Nat) (w : World) (hl : l.length = 64) (hc : 64 ≤ c) (hr : RB w w.heap.size (some ⟨b, o, none⟩) l) :
    Calls Tryd.prog 31 #[.slice (some ⟨b, o, none⟩) 64 c] w fun e w' => e = .returned (.agg (wv (spreadL l)).toArray) ∧ Below w.heap.size w w' := by
  have Hr := Lib.hid hr
  have Hl := Lib.hid hl
  have hc2 : 64 ≤ (c : Int) := by omega
  have H0 : Hid (SpSt w ((w.alloc (.cells #[.int .u32 0, .int .u32 0, .int .u32 0, .int .u32 0, .int .u32 0, .int .u32 0, .int .u32 0, .int .u32 0, .int .u32 0, .int .u32 0, .int .u32 0, .int .u32 0, .int .u32 0, .int .u32 0, .int .u32 0, .int .u32 0, .int .u32 0, .int .u32 0, .int .u32 0, .int .u32 0, .int .u32 0, .int .u32 0, .int .u32 0, .int .u32 0, .int .u32 0, .int .u32 0, .int .u32 0, .int .u32 0, .int .u32 0, .int .u32 0, .int .u32 0, .int .u32 0, .int .u32 0, .int .u32 0, .int .u32 0, .int .u32 0, .int .u32 0, .int .u32 0, .int .u32 0, .int .u32 0, .int .u32 0, .int .u32 0, .int .u32 0, .int .u32 0, .int .u32 0, .int .u32 0, .int .u32 0, .int .u32 0, .int .u32 0, .int .u32 0, .int .u32 0, .int .u32 0, .int .u32 0, .int .u32 0, .int .u32 0, .int .u32 0, .int .u32 0, .int .u32 0, .int .u32 0, .int .u32 0, .int .u32 0, .int .u32 0, .int .u32 0, .int .u32 0] 54)).alloc (.cells #[.int .u32 0, .int .u32 0, .int .u32 0, .int .u32 0, .int .u32 0, .int .u32 0, .int .u32 0, .int .u32 0, .int .u32 0, .int .u32 0, .int .u32 0, .int .u32 0, .int .u32 0, .int .u32 0, .int .u32 0, .int .u32 0, .int .u32 0, .int .u32 0, .int .u32 0, .int .u32 0, .int .u32 0, .int .u32 0, .int .u32 0, .int .u32 0, .int .u32 0, .int .u32 0, .int .u32 0, .int .u32 0, .int .u32 0, .int .u32 0, .int .u32 0, .int .u32 0, .int .u32 0, .int .u32 0, .int .u32 0, .int .u32 0, .int .u32 0, .int .u32 0, .int .u32 0, .int .u32 0, .int .u32 0, .int .u32 0, .int .u32 0, .int .u32 0, .int .u32 0, .int .u32 0, .int .u32 0, .int .u32 0, .int .u32 0, .int .u32 0, .int .u32 0, .int .u32 0, .int .u32 0, .int .u32 0, .int .u32 0, .int .u32 0, .int .u32 0, .int .u32 0, .int .u32 0, .int .u32 0, .int .u32 0, .int .u32 0, .int .u32 0, .int .u32 0] 54)) ((words4 l).take 0)) := by
    refine ⟨(Cells.new w #[.int .u32 0, .int .u32 0, .int .u32 0, .int .u32 0, .int .u32 0, .int .u32 0, .int .u32 0, .int .u32 0, .int .u32 0, .int .u32 0, .int .u32 0, .int .u32 0, .int .u32 0, .int .u32 0, .int .u32 0, .int .u32 0, .int .u32 0, .int .u32 0, .int .u32 0, .int .u32 0, .int .u32 0, .int .u32 0, .int .u32 0, .int .u32 0, .int .u32 0, .int .u32 0, .int .u32 0, .int .u32 0, .int .u32 0, .int .u32 0, .int .u32 0, .int .u32 0, .int .u32 0, .int .u32 0, .int .u32 0, .int .u32 0, .int .u32 0, .int .u32 0, .int .u32 0, .int .u32 0, .int .u32 0, .int .u32 0, .int .u32 0, .int .u32 0, .int .u32 0, .int .u32 0, .int .u32 0, .int .u32 0, .int .u32 0, .int .u32 0, .int .u32 0, .int .u32 0, .int .u32 0, .int .u32 0, .int .u32 0, .int .u32 0, .int .u32 0, .int .u32 0, .int .u32 0, .int .u32 0, .int .u32 0, .int .u32 0, .int .u32 0, .int .u32 0] _).alloc _, ?_, ((Below.refl _ _).alloc (Nat.le_refl _) _).alloc (by simp) _⟩
    have := Cells.new (w.alloc (.cells #[.int .u32 0, .int .u32 0, .int .u32 0, .int .u32 0, .int .u32 0, .int .u32 0, .int .u32 0, .int .u32 0, .int .u32 0, .int .u32 0, .int .u32 0, .int .u32 0, .int .u32 0, .int .u32 0, .int .u32 0, .int .u32 0, .int .u32 0, .int .u32 0, .int .u32 0, .int .u32 0, .int .u32 0, .int .u32 0, .int .u32 0, .int .u32 0, .int .u32 0, .int .u32 0, .int .u32 0, .int .u32 0, .int .u32 0, .int .u32 0, .int .u32 0, .int .u32 0, .int .u32 0, .int .u32 0, .int .u32 0, .int .u32 0, .int .u32 0, .int .u32 0, .int .u32 0, .int .u32 0, .int .u32 0, .int .u32 0, .int .u32 0, .int .u32 0, .int .u32 0, .int .u32 0, .int .u32 0, .int .u32 0, .int .u32 0, .int .u32 0, .int .u32 0, .int .u32 0, .int .u32 0, .int .u32 0, .int .u32 0, .int .u32 0, .int .u32 0, .int .u32 0, .int .u32 0, .int .u32 0, .int .u32 0, .int .u32 0, .int .u32 0, .int .u32 0] 54)) #[.int .u32 0, .int .u32 0, .int .u32 0, .int .u32 0, .int .u32 0, .int .u32 0, .int .u32 0, .int .u32 0, .int .u32 0, .int .u32 0, .int .u32 0, .int .u32 0, .int .u32 0, .int .u32 0, .int .u32 0, .int .u32 0, .int .u32 0, .int .u32 0, .int .u32 0, .int .u32 0, .int .u32 0, .int .u32 0, .int .u32 0, .int .u32 0, .int .u32 0, .int .u32 0, .int .u32 0, .int .u32 0, .int .u32 0, .int .u32 0, .int .u32 0, .int .u32 0, .int .u32 0, .int .u32 0, .int .u32 0, .int .u32 0, .int .u32 0, .int .u32 0, .int .u32 0, .int .u32 0, .int .u32 0, .int .u32 0, .int .u32 0, .int .u32 0, .int .u32 0, .int .u32 0, .int .u32 0, .int .u32 0, .int .u32 0, .int .u32 0, .int .u32 0, .int .u32 0, .int .u32 0, .int .u32 0, .int .u32 0, .int .u32 0, .int .u32 0, .int .u32 0, .int .u32 0, .int .u32 0, .int .u32 0, .int .u32 0, .int .u32 0, .int .u32 0] 54
    rw [World.size_alloc] at this
    exact this
  clear hr hl
  go_enter Tryd.func31, Tryd.ntmps31
  go_wp2_with fail
  generalize (w.alloc (.cells #[.int .u32 0, .int .u32 0, .int .u32 0, .int .u32 0, .int .u32 0, .int .u32 0, .int .u32 0, .int .u32 0, .int .u32 0, .int .u32 0, .int .u32 0, .int .u32 0, .int .u32 0, .int .u32 0, .int .u32 0, .int .u32 0, .int .u32 0, .int .u32 0, .int .u32 0, .int .u32 0, .int .u32 0, .int .u32 0, .int .u32 0, .int .u32 0, .int .u32 0, .int .u32 0, .int .u32 0, .int .u32 0, .int .u32 0, .int .u32 0, .int .u32 0, .int .u32 0, .int .u32 0, .int .u32 0, .int .u32 0, .int .u32 0, .int .u32 0, .int .u32 0, .int .u32 0, .int .u32 0, .int .u32 0, .int .u32 0, .int .u32 0, .int .u32 0, .int .u32 0, .int .u32 0, .int .u32 0, .int .u32 0, .int .u32 0, .int .u32 0, .int .u32 0, .int .u32 0, .int .u32 0, .int .u32 0, .int .u32 0, .int .u32 0, .int .u32 0, .int .u32 0, .int .u32 0, .int .u32 0, .int .u32 0, .int .u32 0, .int .u32 0, .int .u32 0] 54)).alloc (.cells #[.int .u32 0, .int .u32 0, .int .u32 0, .int .u32 0, .int .u32 0, .int .u32 0, .int .u32 0, .int .u32 0, .int .u32 0, .int .u32 0, .int .u32 0, .int .u32 0, .int .u32 0, .int .u32 0, .int .u32 0, .int .u32 0, .int .u32 0, .int .u32 0, .int .u32 0, .int .u32 0, .int .u32 0, .int .u32 0, .int .u32 0, .int .u32 0, .int .u32 0, .int .u32 0, .int .u32 0, .int .u32 0, .int .u32 0, .int .u32 0, .int .u32 0, .int .u32 0, .int .u32 0, .int .u32 0, .int .u32 0, .int .u32 0, .int .u32 0, .int .u32 0, .int .u32 0, .int .u32 0, .int .u32 0, .int .u32 0, .int .u32 0, .int .u32 0, .int .u32 0, .int .u32 0, .int .u32 0, .int .u32 0, .int .u32 0, .int .u32 0, .int .u32 0, .int .u32 0, .int .u32 0, .int .u32 0, .int .u32 0, .int .u32 0, .int .u32 0, .int .u32 0, .int .u32 0, .int .u32 0, .int .u32 0, .int .u32 0, .int .u32 0, .int .u32 0] 54) = W0 at *
  go_loopw [9] (fun iv wr => ∃ i : Nat, iv = .int .i64 (i : Int) ∧ i ≤ 16 ∧ Hid (SpSt w wr ((words4 l).take i))) (fun iv _ => 16 - (intOf iv).toNat)
  case atStart => exact ⟨0, rfl, Nat.zero_le _, H0⟩
  case round =>
    obtain ⟨i, rfl, hi, Hs⟩ := hrel
    clear H0
    by_cases hlt : i < 16
    case pos =>
      obtain ⟨q, hq⟩ : ∃ q, q = 4 * i := ⟨_, rfl⟩
      have hq1 : (4 : Int) * (i : Int) = (q : Int) := by omega
      have hw : ∃ x, (words4 l)[i]? = some x ∧ ∃ b0 b1 b2 b3, l[q]? = some b0 ∧ l[q + 1]? = some b1 ∧ l[q + 2]? = some b2 ∧ l[q + 3]? = some b3 ∧ x = word4 b0 b1 b2 b3 := by
        have h := Hl.out
        have g0 := List.getElem?_eq_getElem (l := l) (i := 4 * i) (by omega)
        have g1 := List.getElem?_eq_getElem (l := l) (i := 4 * i + 1) (by omega)
        have g2 := List.getElem?_eq_getElem (l := l) (i := 4 * i + 2) (by omega)
        have g3 := List.getElem?_eq_getElem (l := l) (i := 4 * i + 3) (by omega)
        rw [hq]
        exact ⟨_, words4_at i l _ _ _ _ g0 g1 g2 g3, _, _, _, _, g0, g1, g2, g3, rfl⟩
      obtain ⟨x, hx, b0, b1, b2, b3, g0, g1, g2, g3, ex⟩ := hw
      have kc : ∀ j y, l[j]? = some y → wr.cell? ⟨b, o + j, none⟩ = some (.int .u8 (y.toNat : Int)) := by
        intro j y hy
        obtain ⟨ad, e, hb, h⟩ := Hr.out j y hy
        cases e
        rw [add_flat] at h
        exact (Hs.out.bel.cell (p := ⟨b, o + j, none⟩) hb).trans h
      have k0 := kc q b0 g0
      have k1 := kc (q + 1) b1 g1
      have k2 := kc (q + 2) b2 g2
      have k3 := kc (q + 3) b3 g3
      rw [← Nat.add_assoc] at k1 k2 k3
      have hlen : ((words4 l).take i).length = i := by rw [List.length_take, words4_len 16 l Hl.out]; omega
      have Hp := Lib.hid (Hs.out.put (by omega) x)
      rw [hlen] at Hp
      have Htk : Hid ((words4 l).take i ++ [x] = (words4 l).take (i + 1)) := (show _ = _ by rw [List.take_add_one, hx]; rfl)
      have f1 := Hs.out.c1.frozen i
      have c1 : wr.cell? ⟨w.heap.size + 1, i, none⟩ = some (.int .u32 (nv 0)) := by
        refine Hs.out.c1.cell (wv_at ?_)
        unfold padW
        rw [List.getElem?_append_right (by omega), hlen, Nat.sub_self]
        rw [List.getElem?_replicate, if_pos (by omega)]
      have hq60 : q ≤ 60 := by omega
      have hq60i : (q : Int) ≤ 60 := by omega
      have hne : ¬ c = q := by omega
      have hi16 : (i : Int) < 64 := by omega
      have hi16n : i < 64 := by omega
      have hcq : 4 ≤ c - q := by omega
      have Hx : Hid (b0.toUInt32 <<< 24 ||| b1.toUInt32 <<< 16 ||| b2.toUInt32 <<< 8 ||| b3.toUInt32 = x) := ex.symm
      clear kc g0 g1 g2 g3 hx hlen hq ex
      go_wp2_with fail
      go_still_tail 24, (by kernel_rfl)
      go_wp2_with fail
      rw [Hx.out]
      go_roundw
      case rel => exact ⟨i + 1, (by first | rfl | simp), by omega, by rw [← Htk.out]; exact (Hp.out).move' rfl⟩
      case measure => simp [intOf]; omega
    case neg =>
      have e16 : i = 16 := by omega
      rw [e16] at Hs
      have hge : ¬ (i : Int) < 16 := by omega
      have H1 : Hid (SpSt w wr (grow 0 (words4 l))) := by have h := Hs.out; rw [List.take_of_length_le (by rw [words4_len 16 l Hl.out]; omega)] at h; exact h
      clear hlt hi Hs W0 e16
      go_wp2_with fail
      generalize wr = wr0 at *
      go_loopw [6] (fun iv wr => ∃ i : Nat, iv = .int .i64 (i : Int) ∧ 16 ≤ i ∧ i ≤ 64 ∧ Hid (SpSt w wr (grow (i - 16) (words4 l)))) (fun iv _ => 64 - (intOf iv).toNat)
      case atStart => exact ⟨16, rfl, Nat.le_refl _, by omega, H1⟩
      case round =>
        obtain ⟨i, rfl, hi1, hi2, Hs⟩ := hrel
        clear H1
        by_cases hlt : i < 64
        case neg =>
          obtain rfl : i = 64 := by omega
          have H2 : Hid (Cells wr w.heap.size 54 (wv (padW [])) ∧ Cells wr (w.heap.size + 1) 54 (wv (spreadL l)) ∧ Below w.heap.size w wr) := by
            have h := Hs.out
            have e : padW (grow (64 - 16) (words4 l)) = spreadL l := padW_full (by rw [grow_len, words4_len 16 l Hl.out])
            exact ⟨h.c0, e ▸ h.c1, h.bel⟩
          obtain ⟨cs, hcs⟩ : ∃ cs, cs = wv (spreadL l) := ⟨_, rfl⟩
          have hn : cs.length = 64 := by rw [hcs, wv_len]; unfold spreadL; rw [grow_len, words4_len 16 l Hl.out]
          have h1 : ∀ u ∈ cs, u.oneCell' = true := by rw [hcs]; exact wv_one _
          rw [← hcs] at H2
          have hag : ∀ w, (isAgg 54).run Tryd.prog w = .ok true w := fun _ => by kernel_rfl
          have hsz : ∀ w, (sizeOf 54).run Tryd.prog w = .ok cs.length w := by rw [hn]; exact fun _ => by kernel_rfl
          have HH := Lib.hid (And.intro hag (And.intro hsz (And.intro h1 (show cs.length = (wv (padW [])).length by rw [hn, wv_len, padW_len (by simp)]))))
          have Hcs := Lib.hid hcs
          clear Hs hlt hi1 hi2 hag hsz h1 hn hcs
          go_wp2_with (first
            | (refine ld_row rfl 54 (.tmp 3) rfl rfl H2.out.2.1 HH.out.1 HH.out.2.1 ?_)
            | (refine st_row rfl 54 (.tmp 2) (.tmp 85) rfl rfl rfl H2.out.1 HH.out.2.1 HH.out.2.2.2 HH.out.2.2.1 ?_; intro w5 h5 k5; have H5 := Lib.hid (And.intro h5 k5); clear h5 k5))
          refine bodyPost_ret (v := .agg cs.toArray) (res_row rfl _ rfl H5.out.1 HH.out.1 HH.out.2.1) rfl ⟨by rw [Hcs.out], ?_⟩
          exact ⟨H5.out.2.os.trans H2.out.2.2.os, H5.out.2.tape.trans H2.out.2.2.tape, H5.out.2.output.trans H2.out.2.2.output, Nat.le_trans H2.out.2.2.size H5.out.2.size, fun k hk => (H5.out.2.block k (Nat.lt_of_lt_of_le hk H2.out.2.2.size) (by show k ≠ w.heap.size; omega)).trans (H2.out.2.2.block k hk)⟩
        case pos =>
        obtain ⟨ms, hms⟩ : ∃ ms, ms = grow (i - 16) (words4 l) := ⟨_, rfl⟩
        have hlen : ms.length = i := by rw [hms, grow_len, words4_len 16 l Hl.out]; omega
        have Hst : Hid (grow (i + 1 - 16) (words4 l) = ms ++ [nxtW ms]) := (show _ = _ by rw [hms, ← grow_snoc]; congr 1; omega)
        rw [← hms] at Hs
        obtain ⟨p15, hp15⟩ : ∃ p, p + 15 = i := ⟨i - 15, by omega⟩
        obtain ⟨p2, hp2⟩ : ∃ p, p + 2 = i := ⟨i - 2, by omega⟩
        obtain ⟨p16, hp16⟩ : ∃ p, p + 16 = i := ⟨i - 16, by omega⟩
        obtain ⟨p7, hp7⟩ : ∃ p, p + 7 = i := ⟨i - 7, by omega⟩
        have g15 := List.getElem?_eq_getElem (l := ms) (i := p15) (by omega)
        have g2 := List.getElem?_eq_getElem (l := ms) (i := p2) (by omega)
        have g16 := List.getElem?_eq_getElem (l := ms) (i := p16) (by omega)
        have g7 := List.getElem?_eq_getElem (l := ms) (i := p7) (by omega)
        generalize ms[p15] = x15 at g15
        generalize ms[p2] = x2 at g2
        generalize ms[p16] = x16 at g16
        generalize ms[p7] = x7 at g7
        have Hn : Hid (x16 + (rot x15 7 ^^^ rot x15 18 ^^^ x15 >>> 3) + x7 + (rot x2 17 ^^^ rot x2 19 ^^^ x2 >>> 10) = nxtW ms) := by
          show _ = _
          unfold nxtW
          simp only []
          rw [hlen, show i - 15 = p15 from by omega, show i - 2 = p2 from by omega, show i - 16 = p16 from by omega, show i - 7 = p7 from by omega]
          simp only [List.getD_eq_getElem?_getD, g15, g2, g16, g7, Option.getD_some]
        have k15 := Hs.out.c1.cell (wv_at (padW_at g15))
        have k2 := Hs.out.c1.cell (wv_at (padW_at g2))
        have k16 := Hs.out.c1.cell (wv_at (padW_at g16))
        have k7 := Hs.out.c1.cell (wv_at (padW_at g7))
        have k0 : wr.cell? ⟨w.heap.size + 1, i, none⟩ = some (.int .u32 (nv 0)) := by
          refine Hs.out.c1.cell (wv_at ?_)
          unfold padW
          rw [List.getElem?_append_right (by omega), hlen, Nat.sub_self, List.getElem?_replicate, if_pos (by omega)]
        have f1 := Hs.out.c1.frozen i
        have Hp := Lib.hid (Hs.out.put (by omega) (nxtW ms))
        rw [hlen] at Hp
        have z15 : IntKind.i64.wrap ((i : Int) - 15) = (p15 : Int) := by rw [IntWalk.i64_in _ (by omega)]; omega
        have z2 : IntKind.i64.wrap ((i : Int) - 2) = (p2 : Int) := by rw [IntWalk.i64_in _ (by omega)]; omega
        have z16 : IntKind.i64.wrap ((i : Int) - 16) = (p16 : Int) := by rw [IntWalk.i64_in _ (by omega)]; omega
        have z7 : IntKind.i64.wrap ((i : Int) - 7) = (p7 : Int) := by rw [IntWalk.i64_in _ (by omega)]; omega
        have b15 : (p15 : Int) < 64 ∧ (p2 : Int) < 64 ∧ (p16 : Int) < 64 ∧ (p7 : Int) < 64 ∧ (i : Int) < 64 := by omega
        have b15n : p15 < 64 ∧ p2 < 64 ∧ p16 < 64 ∧ p7 < 64 := by omega
        obtain ⟨c15, c2, c16, c7, ci⟩ := b15
        obtain ⟨d15, d2, d16, d7⟩ := b15n
        have hi16 : (16 : Int) ≤ (i : Int) := by omega
        have s3 := u32_shr3 x15
        have s10 := u32_shr10 x2
        have v15 := nv_nn x15
        have v2 := nv_nn x2
        clear hms hlen hp15 hp2 hp16 hp7 g15 g2 g16 g7
        go_wp2_with fail
        go_quiet (fail)
        go_wp2_with (go_at_call 32; first
          | ((with_reducible refine (turn7 _ _).mono ?_); rintro e w' ⟨rfl, rfl⟩)
          | ((with_reducible refine (turn18 _ _).mono ?_); rintro e w' ⟨rfl, rfl⟩)
          | ((with_reducible refine (turn17 _ _).mono ?_); rintro e w' ⟨rfl, rfl⟩)
          | ((with_reducible refine (turn19 _ _).mono ?_); rintro e w' ⟨rfl, rfl⟩))
        have Hp1 : Hid (SpSt w ((wr.drewN nq).setCell ⟨w.heap.size + 1, i, none⟩ (.int .u32 (nv (nxtW ms)))) (ms ++ [nxtW ms])) := Hp.out.move' rfl
        have l16 : (wr.drewN nq).cell? ⟨w.heap.size + 1, p16, none⟩ = some (.int .u32 (nv x16)) := k16
        have l7 : (wr.drewN nq).cell? ⟨w.heap.size + 1, p7, none⟩ = some (.int .u32 (nv x7)) := k7
        have l0 : (wr.drewN nq).cell? ⟨w.heap.size + 1, i, none⟩ = some (.int .u32 (nv 0)) := k0
        have lf : (wr.drewN nq).frozen? ⟨w.heap.size + 1, i, none⟩ = false := f1
        clear Hp k15 k2 k16 k7 k0 f1 Hs
        generalize wr.drewN nq = w1 at *
        go_still_tail 15, (by kernel_rfl)
        go_wp2_with fail
        rw [Hn.out]
        go_roundw
        case rel =>
          trace_state
          exact ⟨i + 1, (by first | rfl | simp), by omega, by omega, by rw [Hst.out]; exact Hp1.out.move' rfl⟩
        case measure => simp [intOf]; omega
end
end Go.Proofs.YtabhpgacnenacaaDoor

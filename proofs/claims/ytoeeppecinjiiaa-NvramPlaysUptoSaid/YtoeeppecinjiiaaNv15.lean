/-
  Acts of a play as plain data; are there few of them?
-/
import Derived.Test.YtoeeppecinjiiaaNv14
namespace Go.Proofs.Ytoeeppecinjiiaa
open Go.RowKit

structure PAct where
  op : Int
  place : Int
  num : Int
  bytes : List UInt8
  picks : List Int
/-- an act in memory, its five cells from o on in block b -/
def ActAt (w : World) (b o : Nat) (x : PAct) : Prop :=
  w.cell? ⟨b, o, none⟩ = some (.int .i64 x.op) ∧ w.cell? ⟨b, o + 1, none⟩ = some (.int .i64 x.place) ∧ w.cell? ⟨b, o + 2, none⟩ = some (.int .i64 x.num) ∧
    (∃ (A : Option Addr) (c : Nat), w.cell? ⟨b, o + 3, none⟩ = some (.slice A x.bytes.length c) ∧ RB w w.heap.size A x.bytes ∧ x.bytes.length ≤ c ∧ c ≤ maxLen) ∧
    ∃ (A : Option Addr) (c : Nat), w.cell? ⟨b, o + 4, none⟩ = some (.slice A x.picks.length c) ∧ RI w w.heap.size A x.picks ∧ x.picks.length ≤ c ∧ c ≤ maxLen
/-- the acts of a slice: at a nil one there is none -/
def ActsAt (w : World) (A : Option Addr) (l : List PAct) : Prop := ∀ (k : Nat) x, l[k]? = some x → ∃ b o, A = some ⟨b, o, none⟩ ∧ b < w.heap.size ∧ ActAt w b (o + k * 5) x
def sumLens (l : List PAct) : Nat := (l.map fun x => x.bytes.length + x.picks.length).sum
def fewB (l : List PAct) : Bool := decide (l.length ≤ 300 ∧ sumLens l ≤ 5000)
theorem sumLens_take (l : List PAct) (k : Nat) (x : PAct) (h : l[k]? = some x) : sumLens (l.take (k + 1)) = sumLens (l.take k) + x.bytes.length + x.picks.length := by
  have hk := (List.getElem?_eq_some_iff.1 h).1
  have hx := (List.getElem?_eq_some_iff.1 h).2
  unfold sumLens
  rw [List.take_succ_eq_append_getElem hk, hx]
  simp [Nat.add_assoc]
theorem ActsAt.drewN {w : World} {A : Option Addr} {l : List PAct} (h : ActsAt w A l) (q : Nat) : ActsAt (w.drewN q) A l := h

set_option maxRecDepth 20000 in
set_option maxHeartbeats 1000000 in
theorem few_any (A : Option Addr) (c : Nat) (l : List PAct) (w : World) (h : ActsAt w A l) (hl : l.length ≤ 1048576)
    (hbd : ∀ (k : Nat) (x : PAct), l[k]? = some x → x.bytes.length ≤ 1048576 ∧ x.picks.length ≤ 1048576) :
    Calls Try.prog 6 #[.slice A l.length c] w fun e w' => e = .returned (.bool (fewB l)) ∧ ∃ q, w' = w.drewN q := by
  obtain ⟨N, hN⟩ : ∃ N, N = l.length := ⟨_, rfl⟩
  have Hh := Lib.hid h
  have HN := Lib.hid hN
  have Hb := Lib.hid hbd
  have hNb : (N : Int) ≤ 1048576 := by omega
  rw [← hN]
  clear h hN hl hbd
  have Hst : Hid (sumLens (l.take 0) = 0 ∧ True) := ⟨rfl, trivial⟩
  go_enter Try.func6, Try.ntmps6
  go_wp2_with fail
  go_loopw [3, 4] (fun nv iv wr => ∃ (k n q : Nat), iv = .int .i64 (k : Int) ∧ nv = .int .i64 (n : Int) ∧ k ≤ N ∧ n ≤ k * 2097152 ∧ Hid (wr = w.drewN q) ∧ Hid (n = sumLens (l.take k))) (fun _ iv _ => N - (intOf iv).toNat)
  case atStart => exact ⟨0, 0, 0, rfl, rfl, Nat.zero_le _, Nat.zero_le _, rfl, Hst.out.1.symm⟩
  case round =>
    obtain ⟨k, n, q, rfl, rfl, hk, hn, hw, hs⟩ := hrel
    by_cases hlt : k < N
    case neg =>
      obtain rfl : k = N := by omega
      by_cases h300 : k ≤ 300
      case neg =>
        have Hf2 : Hid (fewB l = false) := by
          show _ = _
          unfold fewB
          exact decide_eq_false (fun q => h300 (by have := HN.out; omega))
        have hN5 : 300 < (k : Int) := by omega
        clear hlt hk h300
        go_wp2_with fail
        go_ret
        exact ⟨by rw [Hf2.out]; simp [hN5], q, hw.out⟩
      have hN4 : (k : Int) ≤ 300 := by omega
      have Hfin : Hid (fewB l = decide ((n : Int) ≤ 5000)) := by
        have e1 : n = sumLens l := by rw [hs.out, HN.out, List.take_length]
        have e2 : l.length ≤ 300 := by rw [← HN.out]; omega
        show _ = _
        unfold fewB
        rw [← e1]
        by_cases hh : n ≤ 5000
        · rw [decide_eq_true ⟨e2, hh⟩, decide_eq_true (by omega)]
        · rw [decide_eq_false (fun q => hh q.2), decide_eq_false (by omega)]
      clear hlt hk
      by_cases hh : (n : Int) ≤ 5000
      · have Hf2 : Hid (fewB l = true) := by show _ = _; rw [Hfin.out]; exact decide_eq_true hh
        go_wp2_with fail
        go_ret
        exact ⟨by rw [Hf2.out]; simp [hh, hN4], q, hw.out⟩
      · have Hf2 : Hid (fewB l = false) := by show _ = _; rw [Hfin.out]; exact decide_eq_false hh
        have hh2 : 5000 < (n : Int) := by omega
        clear hh
        go_wp2_with fail
        go_ret
        exact ⟨by rw [Hf2.out]; simp [hh2, hN4], q, hw.out⟩
    have hk' : (k : Int) < (N : Int) := by omega
    obtain ⟨x, hx⟩ : ∃ x, l[k]? = some x := ⟨_, List.getElem?_eq_getElem (by rw [← HN.out]; exact hlt)⟩
    obtain ⟨b, o, rfl, hb, _, _, _, ⟨A1, c1, g5, _⟩, ⟨A2, c2, g6, _⟩⟩ := Hh.out k x hx
    obtain ⟨b1, b2⟩ := Hb.out k x hx
    have hs2 : Hid (n + x.bytes.length + x.picks.length = sumLens (l.take (k + 1))) := by show _ = _; rw [sumLens_take l k x hx, ← hs.out]
    have g5' : wr.cell? ⟨b, o + k * 5 + 3, none⟩ = some (.slice A1 x.bytes.length c1) := by rw [hw.out]; exact g5
    have g6' : wr.cell? ⟨b, o + k * 5 + 4, none⟩ = some (.slice A2 x.picks.length c2) := by rw [hw.out]; exact g6
    generalize x.bytes.length = m1 at *
    generalize x.picks.length = m2 at *
    have hn' : n ≤ 2199023255552 := by omega
    clear g5 g6 hx
    go_wp2_with fail
    go_quiet (fail)
    go_wp2_with fail
    go_roundw
    case rel => exact ⟨k + 1, n + m1 + m2, q + nq, by go_num, by go_num, by omega, by omega, (by show _ = _; rw [hw.out]; simp [World.drewN, Nat.add_assoc]), hs2.out⟩
    case measure => simp [intOf]; omega
end Go.Proofs.Ytoeeppecinjiiaa

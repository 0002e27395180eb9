/-
  cmp.Compare, slices.Index and Contains of ints; the drives' order (roomy's closure).
-/
import Derived.Test.YtffmipmkbbholaaAlStab2
import Derived.Test.YtffmipmkbbholaaAlNew
namespace Go.Proofs.Ytffmipmkbbholaa
open Go.RowKit Go.Maps Go.Shelf Go.Lib Go.Sort

section
set_option maxRecDepth 100000
set_option maxHeartbeats 4000000
variable {w : World} {tb db mb cap D Z : Nat} {g : St}
theorem isNaN_any (a : Int) (w : World) : Calls Try.prog 59 #[.int .i64 a] w fun e w' => e = .returned (.bool false) ∧ w' = w := by
  go_enter Try.func59, Try.ntmps59
  go_wp2_with fail
  go_ret
  exact ⟨by simp, rfl⟩
theorem compare_any (a b : Int) (w : World) : Calls Try.prog 49 #[.int .i64 a, .int .i64 b] w fun e w' => e = .returned (.int .i64 (cmpI a b)) ∧ w' = w := by
  have Hn := Lib.hid fun a => isNaN_any a w
  rcases Int.lt_trichotomy a b with h | h | h
  · rw [show cmpI a b = -1 from if_pos h]
    go_enter Try.func49, Try.ntmps49
    go_wp2_with fail
    refine (Hn.out _).mono ?_
    rintro e w1 ⟨rfl, rfl⟩
    go_wp2_with fail
    refine (Hn.out _).mono ?_
    rintro e w1 ⟨rfl, rfl⟩
    go_wp2_with fail
    go_ret
    exact ⟨rfl, rfl⟩
  · subst h
    rw [show cmpI a a = 0 from by unfold cmpI; rw [if_neg (by omega), if_neg (by omega)]]
    go_enter Try.func49, Try.ntmps49
    go_wp2_with fail
    refine (Hn.out _).mono ?_
    rintro e w1 ⟨rfl, rfl⟩
    go_wp2_with fail
    refine (Hn.out _).mono ?_
    rintro e w1 ⟨rfl, rfl⟩
    go_wp2_with fail
    go_ret
    exact ⟨rfl, rfl⟩
  · have h' : ¬ a < b := by omega
    rw [show cmpI a b = 1 from by unfold cmpI; rw [if_neg (by omega), if_pos h]]
    go_enter Try.func49, Try.ntmps49
    go_wp2_with fail
    refine (Hn.out _).mono ?_
    rintro e w1 ⟨rfl, rfl⟩
    go_wp2_with fail
    refine (Hn.out _).mono ?_
    rintro e w1 ⟨rfl, rfl⟩
    go_wp2_with fail
    go_ret
    exact ⟨rfl, rfl⟩
theorem RI.flatAt {A : Option Addr} {B : Nat} {l : List Int} (h : RI w B A l) {k : Nat} (hk : k < l.length) : ∃ b o, A = some ⟨b, o, none⟩ ∧ b < B ∧ w.cell? ⟨b, o + k, none⟩ = some (.int .i64 (l[k])) := by
  obtain ⟨b, o, rfl, hb⟩ := h.flat (by omega)
  exact ⟨b, o, rfl, hb, h.at_ hk⟩
theorem index_int (A : Option Addr) (c n : Nat) (us : List Int) (x : Int) (hn : n = us.length) (hl : n ≤ 1099511627776) (hr : RI w w.heap.size A us) :
    Calls Try.prog 57 #[.slice A n c, .int .i64 x] w fun e w' => (∃ i : Int, e = .returned (.int .i64 i) ∧ (0 ≤ i ↔ x ∈ us)) ∧ w' = w := by
  have Hr := Lib.hid hr
  have Hn := Lib.hid hn
  have hl' : (n : Int) ≤ 1099511627776 := by omega
  clear hr hn
  go_enter Try.func57, Try.ntmps57
  go_wp2_with fail
  go_loopw [8] (fun iv wr => wr = w ∧ ∃ i : Nat, iv = .int .i64 (i : Int) ∧ i ≤ n ∧ Hid (x ∉ us.take i)) (fun iv _ => n - (intOf iv).toNat)
  case atStart => exact ⟨rfl, 0, rfl, Nat.zero_le _, (show x ∉ us.take 0 from by simp)⟩
  case round =>
    obtain ⟨rfl, i, rfl, hi, hno⟩ := hrel
    by_cases hlt : i < n
    · have hiu : i < us.length := by rw [← Hn.out]; exact hlt
      obtain ⟨b, o, rfl, hb, c0⟩ := Hr.out.flatAt hiu
      have hlt' : (i : Int) < (n : Int) := by omega
      have Hyes : Hid (x = us[i] → x ∈ us) := fun e => e ▸ List.getElem_mem _
      have Hnot : Hid (¬ x = us[i] → x ∉ us.take (i + 1)) := fun e => by
        rw [List.take_add_one, List.getElem?_eq_getElem hiu]
        simp only [Option.toList_some, List.mem_append, List.mem_singleton, not_or]
        exact ⟨hno.out, e⟩
      generalize us[i] = y at *
      clear hno hb hiu hlt
      by_cases hxy : x = y
      · have Hy := Lib.hid (Hyes.out hxy)
        clear Hyes Hnot
        go_wp2_with fail
        go_ret
        exact ⟨⟨i, rfl, ⟨fun _ => Hy.out, fun _ => by omega⟩⟩, rfl⟩
      · have Hn2 := Lib.hid (Hnot.out hxy)
        clear Hyes Hnot
        go_wp2_with fail
        go_roundw
        case rel => exact ⟨by trivial, i + 1, by go_num, by omega, Hn2.out⟩
        case measure => simp [intOf]; omega
    · obtain rfl : i = n := by omega
      have Hno : Hid (x ∉ us) := by
        have := hno.out
        rw [Hn.out, List.take_of_length_le (Nat.le_refl _)] at this
        exact this
      clear hno hlt
      go_wp2_with fail
      go_ret
      exact ⟨⟨-1, rfl, ⟨fun h => by omega, fun h => absurd h Hno.out⟩⟩, rfl⟩
theorem contains_int (A : Option Addr) (c n : Nat) (us : List Int) (x : Int) (hn : n = us.length) (hl : n ≤ 1099511627776) (hr : RI w w.heap.size A us) :
    Calls Try.prog 46 #[.slice A n c, .int .i64 x] w fun e w' => e = .returned (.bool (decide (x ∈ us))) ∧ w' = w := by
  have Hi := Lib.hid (index_int A c n us x hn hl hr)
  clear hr hn hl
  go_enter Try.func46, Try.ntmps46
  go_wp2_with fail
  refine Hi.out.mono ?_
  rintro e w1 ⟨⟨i, rfl, hiff⟩, rfl⟩
  have Hiff := Lib.hid hiff
  clear hiff Hi
  go_wp2_with fail
  go_ret
  refine ⟨?_, rfl⟩
  by_cases q : 0 ≤ i
  · rw [decide_eq_true (Hiff.out.1 q)]; simp [q]
  · rw [decide_eq_false (fun h => q (Hiff.out.2 h))]; simp [q]

/-- how many a drive has -/
def frF (g : St) (D Z : Nat) : Int → Nat := fun x => freeOn g D Z x
theorem roomyCmp_any (bx : Nat) (x y : Int) (h : TabAt w tb db mb cap D Z g) (hb : w.cell? ⟨bx, 0, none⟩ = some (.pointer (some ⟨tb, 0, none⟩))) :
    Calls Try.prog 48 #[.int .i64 x, .int .i64 y, .pointer (some ⟨bx, 0, none⟩)] w fun e w' => e = .returned (.int .i64 (cfF (frF g D Z) x y)) ∧ ∃ q, w' = w.drewN q := by
  have Hf := Lib.hid fun q z => freeOn_any z (h.drewN q)
  have Hc := Lib.hid fun (a b : Int) w => compare_any a b w
  rw [show cfF (frF g D Z) x y = cmpI (freeOn g D Z y : Nat) (freeOn g D Z x : Nat) from rfl]
  clear h
  go_enter Try.func48, Try.ntmps48
  go_wp2_with fail
  go_quiet (first | (go_at_call 22; exact Calls.quiet_of_same (Hf.out _ _)) | (go_at_call 49; exact Calls.quiet_of_same (Hc.out _ _ _)))
  go_wp2_with fail
  go_ret
  exact ⟨rfl, _, rfl⟩
theorem sortWorld_block {blk off m k : Nat} {dk : Array Int} {os : Array Obj} (hk : k < w.heap.size) (hne : k ≠ blk) : (sortWorld eI w blk off m dk os).heap[k]? = w.heap[k]? := by
  unfold sortWorld putRow mapBlock grow Sort.ahead
  simp only []
  rw [Array.getElem?_append_left (by simpa using hk), Array.getElem?_modify]
  rw [if_neg (fun e => hne e.symm)]
theorem roomyCmp_lays (bx blk off size : Nat) (h : TabAt w tb db mb cap D Z g) (hb : w.cell? ⟨bx, 0, none⟩ = some (.pointer (some ⟨tb, 0, none⟩))) (h1 : tb ≠ blk) (h2 : db ≠ blk) (h3 : mb ≠ blk) (h4 : bx ≠ blk) :
    CmpLays1 Try.prog 48 #[.pointer (some ⟨bx, 0, none⟩)] eI (cfF (frF g D Z)) blk off size w := by
  intro m os dk hs x y
  have ht := h.move (w' := sortWorld eI w blk off m dk os) (sortWorld_block h.tc.lt h1) (sortWorld_block h.dc.lt h2) (sortWorld_block h.mc.lt h3)
  have hbl : bx < w.heap.size := World.block_lt_of_cell? _ _ hb
  have hb' : (sortWorld eI w blk off m dk os).cell? ⟨bx, 0, none⟩ = some (.pointer (some ⟨tb, 0, none⟩)) := (World.cell?_of_block (w := w) (sortWorld_block hbl h4)).trans hb
  refine (roomyCmp_any bx x y ht hb').mono ?_
  rintro e w' ⟨he, q, hq⟩
  exact ⟨he, q, #[], by rw [hq, grow_empty]⟩
end
end Go.Proofs.Ytffmipmkbbholaa

/-
  FrameGrows: whatever two numbers: the call returns true.
-/
import Derived.Test.YtlgeknibdgamgaaDoorKnown
import Derived.Test.YtlgeknibdgamgaaDoorNumber
import Derived.Test.YtlgeknibdgamgaaDoorSame
namespace Go.Proofs.YtlgeknibdgamgaaDoor
open Go.RowKit

theorem numBytes_mono : ∀ a b : Nat, a ≤ b → (numBytes a).length ≤ (numBytes b).length := by
  intro a
  induction a using Nat.strongRecOn with
  | ind a ih =>
    intro b h
    by_cases ha : a < 128
    · rw [numBytes_lt ha]
      exact numBytes_pos b
    · rw [numBytes_ge ha, numBytes_ge (show ¬ b < 128 by omega), List.length_cons, List.length_cons]
      have := ih (a / 128) (by omega) (b / 128) (Nat.div_le_div_right h)
      omega
theorem numBytes_front : ∀ a b : Nat, numBytes a = (numBytes b).take (numBytes a).length → a = b := by
  intro a
  induction a using Nat.strongRecOn with
  | ind a ih =>
    intro b h
    by_cases ha : a < 128
    · rw [numBytes_lt ha] at h
      by_cases hb : b < 128
      · rw [numBytes_lt hb] at h
        have := congrArg (fun l => (l.map UInt8.toNat)) h
        simp at this
        omega
      · rw [numBytes_ge hb] at h
        have := congrArg (fun l => (l.map UInt8.toNat)) h
        simp at this
        omega
    · rw [numBytes_ge ha] at h
      by_cases hb : b < 128
      · rw [numBytes_lt hb] at h
        have := congrArg (fun l => (l.map UInt8.toNat)) h
        simp at this
        omega
      · rw [numBytes_ge hb, List.length_cons, List.take_succ_cons] at h
        injection h with h1 h2
        have h3 := ih (a / 128) (by omega) (b / 128) h2
        have h4 := congrArg UInt8.toNat h1
        rw [UInt8.toNat_ofNat', UInt8.toNat_ofNat'] at h4
        omega

theorem number_nil (v : Nat) (w : World) (hv : v < two64) : Calls Tryd.prog 24 #[.slice none 0 0, .int .u64 (v : Int)] w fun e w' =>
    ∃ g cap, e = .returned (.slice (some ⟨g, 0, none⟩) (numBytes v).length cap) ∧ RB w' w'.heap.size (some ⟨g, 0, none⟩) (numBytes v) ∧ (numBytes v).length ≤ cap ∧ w.heap.size ≤ g ∧ Below w.heap.size w w' := by
  refine (number_any none 0 [] v w w.heap.size (RB.nil _ _ _) (Nat.le_refl _) (by simp) hv).mono ?_
  rintro e w' ⟨b', rfl, hown, hbel⟩
  rw [List.nil_append] at hown
  obtain ⟨g, cap, rfl, hg, _, hcap, _⟩ := hown.form (numBytes_pos v)
  obtain ⟨A, c, hv', _, hr, _⟩ := hown.rb
  have hA : A = some ⟨g, 0, none⟩ := by injection hv' with h; exact h.symm
  subst hA
  exact ⟨g, cap, rfl, hr, hcap, hg, hbel⟩

set_option maxRecDepth 200000 in
set_option maxHeartbeats 1000000 in
theorem grows_walk (a b : Nat) (w : World) (ht : Tab w) (ha : a < two64) (hb : b < two64) :
    Calls Tryd.prog 8 #[.int .u64 (a : Int), .int .u64 (b : Int)] w fun e w' => e = .returned (.bool true) ∧ Below w.heap.size w w' := by
  have Ht := Lib.hid ht
  have Ha := Lib.hid ha
  have Hb := Lib.hid hb
  clear ht ha hb
  by_cases hab : b < a
  · go_enter Tryd.func8, Tryd.ntmps8
    go_wp2_with (go_at_call 10; refine (known_any _ Ht.out).mono ?_; rintro e w1 ⟨rfl, hb1⟩)
    have Hb1 := Lib.hid hb1
    clear hb1
    go_wp2_with fail
    refine (number_nil b _ Hb.out).mono ?_
    rintro e w2 ⟨g, cap, rfl, hr2, hcap, hg, hb2⟩
    have Hb2 := Lib.hid hb2
    have Hr2 := Lib.hid hr2
    clear hb2 hr2
    go_wp2_with fail
    refine (number_nil a _ Ha.out).mono ?_
    rintro e w3 ⟨g', cap', rfl, hr3, hcap', hg', hb3⟩
    have Hb3 := Lib.hid hb3
    have Hr3 := Lib.hid hr3
    clear hb3 hr3
    have Hend : Hid (Below w.heap.size w w3) := (Hb1.out.trans (Hb2.out.mono Hb1.out.size)).trans (Hb3.out.mono (Nat.le_trans Hb1.out.size Hb2.out.size))
    have f1 : (1 : Int) ≤ ((numBytes b).length : Int) := by have := numBytes_pos b; omega
    have f2 : (numBytes b).length ≤ (numBytes a).length := numBytes_mono b a (by omega)
    have f3 : ((numBytes a).length : Int) ≤ 10 := by have := numBytes_ten Ha.out; omega
    have f4 : (numBytes b).length ≤ cap' := by omega
    have hs := same_any (some ⟨g, 0, none⟩) (some ⟨g', 0, none⟩) cap cap' (numBytes b) ((numBytes a).take (numBytes b).length) w3 _ _ (Hr2.out.below Hb3.out) (Hr3.out.take _)
    rw [List.length_take, Nat.min_eq_left f2, show (numBytes b == (numBytes a).take (numBytes b).length) = false from by
      rw [beq_eq_false_iff_ne]
      intro h
      have := numBytes_front b a h
      omega] at hs
    have Hs := Lib.hid hs
    clear hs
    go_wp2_with (go_at_call 18; refine Hs.out.mono ?_; rintro e w' ⟨rfl, rfl⟩)
    go_ret
    exact ⟨rfl, Hend.out⟩
  · by_cases hne : a < b
    · go_enter Tryd.func8, Tryd.ntmps8
      go_wp2_with (go_at_call 10; refine (known_any _ Ht.out).mono ?_; rintro e w1 ⟨rfl, hb1⟩)
      have Hb1 := Lib.hid hb1
      clear hb1
      go_wp2_with fail
      refine (number_nil a _ Ha.out).mono ?_
      rintro e w2 ⟨g, cap, rfl, hr2, hcap, hg, hb2⟩
      have Hb2 := Lib.hid hb2
      have Hr2 := Lib.hid hr2
      clear hb2 hr2
      go_wp2_with fail
      refine (number_nil b _ Hb.out).mono ?_
      rintro e w3 ⟨g', cap', rfl, hr3, hcap', hg', hb3⟩
      have Hb3 := Lib.hid hb3
      have Hr3 := Lib.hid hr3
      clear hb3 hr3
      have Hend : Hid (Below w.heap.size w w3) := (Hb1.out.trans (Hb2.out.mono Hb1.out.size)).trans (Hb3.out.mono (Nat.le_trans Hb1.out.size Hb2.out.size))
      have f1 : (1 : Int) ≤ ((numBytes a).length : Int) := by have := numBytes_pos a; omega
      have f2 : (numBytes a).length ≤ (numBytes b).length := numBytes_mono a b (by omega)
      have f3 : ((numBytes b).length : Int) ≤ 10 := by have := numBytes_ten Hb.out; omega
      have f4 : (numBytes a).length ≤ cap' := by omega
      have hs := same_any (some ⟨g, 0, none⟩) (some ⟨g', 0, none⟩) cap cap' (numBytes a) ((numBytes b).take (numBytes a).length) w3 _ _ (Hr2.out.below Hb3.out) (Hr3.out.take _)
      rw [List.length_take, Nat.min_eq_left f2, show (numBytes a == (numBytes b).take (numBytes a).length) = false from by
        rw [beq_eq_false_iff_ne]
        intro h
        have := numBytes_front a b h
        omega] at hs
      have Hs := Lib.hid hs
      clear hs
      go_wp2_with (go_at_call 18; refine Hs.out.mono ?_; rintro e w' ⟨rfl, rfl⟩)
      go_ret
      exact ⟨rfl, Hend.out⟩
    · obtain rfl : a = b := by omega
      clear Hb
      go_enter Tryd.func8, Tryd.ntmps8
      go_wp2_with (go_at_call 10; refine (known_any _ Ht.out).mono ?_; rintro e w1 ⟨rfl, hb1⟩)
      have Hb1 := Lib.hid hb1
      clear hb1
      go_wp2_with fail
      refine (number_nil a _ Ha.out).mono ?_
      rintro e w2 ⟨g, cap, rfl, hr2, hcap, hg, hb2⟩
      have Hb2 := Lib.hid hb2
      have Hr2 := Lib.hid hr2
      clear hb2 hr2
      go_wp2_with fail
      refine (number_nil a _ Ha.out).mono ?_
      rintro e w3 ⟨g', cap', rfl, hr3, hcap', hg', hb3⟩
      have Hb3 := Lib.hid hb3
      have Hr3 := Lib.hid hr3
      clear hb3 hr3
      have Hend : Hid (Below w.heap.size w w3) := (Hb1.out.trans (Hb2.out.mono Hb1.out.size)).trans (Hb3.out.mono (Nat.le_trans Hb1.out.size Hb2.out.size))
      have f1 : (1 : Int) ≤ ((numBytes a).length : Int) := by have := numBytes_pos a; omega
      have f2 : (numBytes a).length ≤ (numBytes a).length := numBytes_mono a a (by omega)
      have f3 : ((numBytes a).length : Int) ≤ 10 := by have := numBytes_ten Ha.out; omega
      have f4 : (numBytes a).length ≤ cap' := by omega
      go_wp2_with fail
      go_ret
      exact ⟨rfl, Hend.out⟩
end Go.Proofs.YtlgeknibdgamgaaDoor

/-
  The law's chapter example, walked.
-/
import Derived.Test.YtkjogkmdldplgaaDoorKLgAppend
import Derived.Test.YtkjogkmdldplgaaDoorZText
import Derived.Lib.SlBytesConst
namespace Go.Proofs.YtkjogkmdldplgaaDoor
open Go.RowKit

/-- M is no block that was there at W, and those are as they were -/
def Fresh (W w : World) (M : Nat → Prop) : Prop := (∀ x, x < W.heap.size → ¬ M x) ∧ Below W.heap.size W w
theorem Fresh.step {W w w' : World} {M M' : Nat → Prop} (h : Fresh W w M) (hx : ExtM w M w' M') : Fresh W w' M' :=
  ⟨fun x hx' q => h.1 x hx' (hx.2 x (Nat.lt_of_lt_of_le hx' h.2.size) q), ⟨hx.1.os.trans h.2.os, hx.1.tape.trans h.2.tape, hx.1.output.trans h.2.output, Nat.le_trans h.2.size hx.1.size, fun x hx' => (hx.1.block x (Nat.lt_of_lt_of_le hx' h.2.size) (h.1 x hx')).trans (h.2.block x hx')⟩⟩
theorem Fresh.below {W w w' : World} {M : Nat → Prop} (h : Fresh W w M) (hb : Below w.heap.size w w') : Fresh W w' M := ⟨h.1, h.2.trans (hb.mono h.2.size)⟩
/-- a power and a device are made -/
theorem begin_dev (W w1 : World) (n : Nat) (hp : PowNew w1 W.heap.size) (hb : Below W.heap.size W w1) (h1 : 64 ≤ n) (h2 : n ≤ 67108864) :
    Calls Tryd.prog 6 #[.pointer (some ⟨W.heap.size, 0, none⟩), .int .i64 (n : Int)] w1 fun e w2 => ∃ O nv, e = .returned (.tuple #[.pointer (some ⟨nv, 0, none⟩), .int .i64 0]) ∧ SysAt w2 O W.heap.size (Pk 0) nv ⟨List.replicate n 0, [], 0⟩ ∧ (∀ x, x < W.heap.size → O x = none) ∧ Below W.heap.size W w2 :=
  (new_ok W.heap.size n w1 hp h1 h2).mono fun e w2 ⟨O, nv, he, s1, s2, s3⟩ => ⟨O, nv, he, s1, fun x hx => s2 x (Nat.lt_of_lt_of_le hx hb.size) (by omega),
    ⟨s3.os.trans hb.os, s3.tape.trans hb.tape, s3.output.trans hb.output, Nat.le_trans hb.size s3.size, fun x hx => (s3.block x (Nat.lt_of_lt_of_le hx hb.size) (by omega)).trans (hb.block x hx)⟩⟩
theorem begin_log (W w2 : World) (n nv : Nat) (O : Nat → Option Tag) (h : SysAt w2 O W.heap.size (Pk 0) nv ⟨List.replicate n 0, [], 0⟩) (ho : ∀ x, x < W.heap.size → O x = none) (hb : Below W.heap.size W w2) (h1 : 256 ≤ n) :
    Calls Tryd.prog 8 #[.pointer (some ⟨nv, 0, none⟩)] w2 fun e w3 => ∃ lb, e = .returned (.tuple #[.pointer (some ⟨lb, 0, none⟩), .nilIface]) ∧ ∃ M, LG w3 M W.heap.size nv lb (Pk 4) n ⟨1, 1, 0, 0⟩ [] ∧ Fresh W w3 M := by
  refine (format_any W.heap.size nv n 0 (List.replicate n 0) O w2 h (by simp) h1 (by unfold byteAt; cases n with
    | zero => omega
    | succ n => rfl) (by omega)).mono ?_
  rintro e w3 ⟨lb, he, hlb, M, q1, q2, q3⟩
  refine ⟨lb, he, M, q1, ⟨fun x hx q => ?_, ⟨q2.os.trans hb.os, q2.tape.trans hb.tape, q2.output.trans hb.output, Nat.le_trans hb.size q2.size, fun x hx => (q2.block x (Nat.lt_of_lt_of_le hx hb.size) (ho x hx)).trans (hb.block x hx)⟩⟩⟩
  exact q3 x (Nat.lt_of_lt_of_le hx hb.size) q (ho x hx)

theorem rb_lit1 (w : World) (x : UInt8) (z : Nat × Nat) : RB (w.alloc (.cells #[.int .u8 (x.toNat : Int)] 5 z)) (w.alloc (.cells #[.int .u8 (x.toNat : Int)] 5 z)).heap.size (some ⟨w.heap.size, 0, none⟩) [x] := fun k u hu => by
  have h := heap_alloc_new w (.cells #[.int .u8 (x.toNat : Int)] 5 z)
  refine ⟨_, rfl, by simp, ?_⟩
  rw [add_flat, Nat.zero_add]
  match k, hu with
  | 0, hu =>
    cases hu
    simp only [World.cell?, h]
    rfl
  | k + 1, hu => simp at hu
/-- a record of one letter is appended -/
theorem append_lit1 {W w : World} {M : Nat → Prop} {pw nv lb n : Nat} {b : Bd} {rs : List (List UInt8)} (x : UInt8) (z : Nat × Nat) (h : LG w M pw nv lb (Pk n) 1000 b rs ∧ Fresh W w M) (hl : 1 ≤ roomV 943 b.used) (hnx : b.next ≤ 1000) (hn : n ≤ 1000) :
    Calls Tryd.prog 12 #[.pointer (some ⟨lb, 0, none⟩), .slice (some ⟨w.heap.size, 0, none⟩) 1 1] (w.alloc (.cells #[.int .u8 (x.toNat : Int)] 5 z)) fun e w' => e = .returned (.tuple #[.int .u64 (b.next : Int), .int .i64 0]) ∧ ∃ M' n', n' ≤ n + 9 ∧ LG w' M' pw nv lb (Pk n') 1000 (longerB b 2) (rs ++ [[x]]) ∧ Fresh W w' M' := by
  obtain ⟨h1, h2⟩ := h
  have hb : Below w.heap.size w (w.alloc (.cells #[.int .u8 (x.toNat : Int)] 5 z)) := (Below.refl _ w).alloc (Nat.le_refl _) _
  refine ((h1.below hb).append (l := [x]) (c := 1) (rb_lit1 w x z) (fun _ ad e q => ?_) (Nat.le_refl _) (by simp) hl (by omega) (by show n + 1 ≤ _; omega)).mono ?_
  · cases e
    have := h1.fresh _ q
    exact Nat.lt_irrefl _ this
  · rintro e w' ⟨he, M', n', hn', q1, q2⟩
    have e2 : (encR [x]).length = 2 := by
      rw [encR_length]
      show (numBytes 1).length + 1 = 2
      rw [numBytes_lt (by decide)]
      rfl
    rw [e2] at q1
    exact ⟨he, M', n', hn', q1, (h2.below hb).step q2⟩

section
set_option maxRecDepth 20000
set_option maxHeartbeats 4000000
theorem known_any (W : World) : Calls Tryd.prog 5 #[] W fun e w' => e = .returned (.bool true) ∧ Below W.heap.size W w' := by
  have kc := fun (w : World) (C : Array Value) (n c : Nat) => Lib.run_convert_bytes_const (P := Tryd.prog) w 35 5 C n c Tryd.underlying35 Tryd.underlying5
  have Hb := Lib.hid (newPower_any W)
  go_enter Tryd.func5, Tryd.ntmps5
  go_wp2_with fail
  refine Hb.out.mono ?_
  rintro e w1 ⟨rfl, hp1, hb1⟩
  have Hn : Hid (Calls Tryd.prog 6 #[.pointer (some ⟨W.heap.size, 0, none⟩), .int .i64 1000] w1 _) := begin_dev W w1 1000 hp1 hb1 (by decide) (by decide)
  clear hp1 hb1 Hb
  go_wp2_with fail
  refine Hn.out.mono ?_
  rintro e w2 ⟨O, nv, rfl, s1, s2, s3⟩
  have Hf := Lib.hid (begin_log W w2 1000 nv O s1 s2 s3 (by decide))
  clear s1 s2 s3 Hn
  go_wp2_with fail
  refine Hf.out.mono ?_
  rintro e w3 ⟨lb, rfl, M3, l3, f3⟩
  clear Hf
  have H3 := Lib.hid (And.intro l3 f3)
  clear l3 f3
  go_wp2_with fail
  have H4 : Hid (Calls Tryd.prog 12 #[.pointer (some ⟨lb, 0, none⟩), .slice (some ⟨w3.heap.size, 0, none⟩) 1 1] (w3.alloc (.cells #[.int .u8 97] 5 (1, 2))) _) := append_lit1 97 (1, 2) H3.out (by decide) (by decide) (by decide)
  refine H4.out.mono ?_
  rintro e w4 ⟨rfl, M4, n4, hn4, l4, f4⟩
  clear H4 H3
  have H4 := Lib.hid (And.intro l4 f4)
  have Hn4 : Hid (n4 ≤ 13) := hn4
  clear l4 f4 hn4
  go_wp2_with fail
  have H5 : Hid (Calls Tryd.prog 12 #[.pointer (some ⟨lb, 0, none⟩), .slice (some ⟨w4.heap.size, 0, none⟩) 1 1] (w4.alloc (.cells #[.int .u8 98] 5 (1, 2))) _) := append_lit1 98 (1, 2) H4.out (by decide) (by decide) (by have := Hn4.out; omega)
  refine H5.out.mono ?_
  rintro e w5 ⟨rfl, M5, n5, hn5, l5, f5⟩
  clear H5 H4
  have Hn5 : Hid (n5 ≤ 22) := by have := Hn4.out; show _ ≤ _; omega
  have H6 : Hid (Calls Tryd.prog 11 #[.pointer (some ⟨lb, 0, none⟩), .int .u64 1] w5 fun e w' => e = .returned (.int .i64 0) ∧ ∃ M', LG w' M' W.heap.size nv lb (Pk (n5 + 4)) 1000 ⟨2, 3, 2, 2⟩ [[98]] ∧ Fresh W w' M') := by
    have l5' : LG w5 M5 W.heap.size nv lb (Pk n5) 1000 (longerB (longerB ⟨1, 1, 0, 0⟩ 2) 2) ([97] :: [[98]]) := l5
    refine (l5'.truncate (by have := Hn5.out; omega)).mono ?_
    rintro e w' ⟨he, M', q1, q2⟩
    have e2 : (encR [97]).length = 2 := by
      rw [encR_length]
      show (numBytes 1).length + 1 = 2
      rw [numBytes_lt (by decide)]
      rfl
    rw [e2] at q1
    exact ⟨he, M', q1, f5.step q2⟩
  clear l5 f5 hn5
  go_wp2_with fail
  refine H6.out.mono ?_
  rintro e w6 ⟨rfl, M6, l6, f6⟩
  clear H6
  have H7 : Hid (Calls Tryd.prog 13 #[.pointer (some ⟨nv, 0, none⟩)] w6 fun e w' => ∃ lb' g c x A cx, e = .returned (.tuple #[.pointer (some ⟨lb', 0, none⟩), .slice (some ⟨g, 0, none⟩) 1 c, .nilIface]) ∧ w'.cell? ⟨g, 0, none⟩ = some (.int .u64 2) ∧ w'.cell? ⟨g, 1, none⟩ = some x ∧ x = .slice A 1 cx ∧ (∀ w2, w2 = w' → (convert 35 9 (.slice A 1 cx)).run Tryd.prog w2 = .ok (.string ⟨#[98]⟩) w2) ∧
      Calls Tryd.prog 17 #[.pointer (some ⟨lb', 0, none⟩)] w' fun e w2 => e = .returned (.int .u64 3) ∧ Below W.heap.size W w2) := by
    refine (l6.opened rfl).mono ?_
    rintro e w' ⟨lb', v, he, hlb, ⟨M', q1, q2⟩, ⟨cs, r1, r2⟩, q4⟩
    have f7 := f6.step q2
    obtain ⟨x, p1, p2, p3⟩ := r2 0 [98] rfl
    obtain ⟨A, cx, rfl, _, hrb, _⟩ := p3.rb
    rcases r1.2 with ⟨_, h0⟩ | ⟨g, c, cur, rfl, _⟩
    · simp at h0
    have cc := World.ownsRow.cells r1 (g := g) rfl
    refine ⟨lb', g, c, _, A, cx, he, ?_, ?_, rfl, ?_, ?_⟩
    · have := cc 0 _ p1; rw [add_flat] at this; exact this
    · have := cc 1 _ p2; rw [add_flat] at this; exact this
    · rintro w2 rfl
      exact text_run w2 _ A [98] cx hrb
    · exact (q1.next rfl).mono fun e w2 ⟨he, _, q5⟩ => ⟨he, (f7.step q5).2⟩
  clear l6 f6
  go_wp2_with fail
  refine H7.out.mono ?_
  rintro e w7 ⟨lb', g, c, x, A, cx, rfl, c0, c1, rfl, htx, hnext⟩
  have htx' := htx w7 rfl
  have Hnx := Lib.hid hnext
  clear htx hnext H7
  go_wp2_with (go_at_call 17; refine Hnx.out.mono ?_; rintro e w8 ⟨rfl, hb8⟩; have Hb8 := Lib.hid hb8; clear hb8)
  go_ret
  exact ⟨rfl, Hb8.out⟩
end
end Go.Proofs.YtkjogkmdldplgaaDoor

/-
  The law's chapter example, walked.
-/
import Derived.Test.YtkjogkmdldplgaaDoorKLgAppend
import Derived.Test.YtkjogkmdldplgaaDoorZText
import Derived.Lib.SlBytesConst
namespace Go.Proofs.YtkjogkmdldplgaaDoor
open Go.RowKit

/-- M is no block that was there at W, and those are as they were -/
def Fresh (W w : World) (M : Nat → Prop) : Prop := (∀ x, x < W.heap.size → ¬ M x) ∧ Below W.heap.size W w
theorem Fresh.step {W w w' : World} {M M' : Nat → Prop} (h : Fresh W w M) (hx : ExtM w M w' M') : Fresh W w' M' :=
  ⟨fun x hx' q => h.1 x hx' (hx.2 x (Nat.lt_of_lt_of_le hx' h.2.size) q), ⟨hx.1.os.trans h.2.os, hx.1.tape.trans h.2.tape, hx.1.output.trans h.2.output, Nat.le_trans h.2.size hx.1.size, fun x hx' => (hx.1.block x (Nat.lt_of_lt_of_le hx' h.2.size) (h.1 x hx')).trans (h.2.block x hx')⟩⟩
theorem Fresh.below {W w w' : World} {M : Nat → Prop} (h : Fresh W w M) (hb : Below w.heap.size w w') : Fresh W w' M := ⟨h.1, h.2.trans (hb.mono h.2.size)⟩
/-- a power and a device are made -/
theorem begin_dev (W w1 : World) (n : Nat) (hp : PowNew w1 W.heap.size) (hb : Below W.heap.size W w1) (h1 : 64 ≤ n) (h2 : n ≤ 67108864) :
    Calls Tryd.prog 6 #[.pointer (some ⟨W.heap.size, 0, none⟩), .int .i64 (n : Int)] w1 fun e w2 => ∃ O nv, e = .returned (.tuple #[.pointer (some ⟨nv, 0, none⟩), .int .i64 0]) ∧ SysAt w2 O W.heap.size (Pk 0) nv ⟨List.replicate n 0, [], 0⟩ ∧ (∀ x, x < W.heap.size → O x = none) ∧ Below W.heap.size W w2 :=
  (new_ok W.heap.size n w1 hp h1 h2).mono fun e w2 ⟨O, nv, he, s1, s2, s3⟩ => ⟨O, nv, he, s1, fun x hx => s2 x (Nat.lt_of_lt_of_le hx hb.size) (by omega),
    ⟨s3.os.trans hb.os, s3.tape.trans hb.tape, s3.output.trans hb.output, Nat.le_trans hb.size s3.size, fun x hx => (s3.block x (Nat.lt_of_lt_of_le hx hb.size) (by omega)).trans (hb.block x hx)⟩⟩
theorem begin_log (W w2 : World) (n nv : Nat) (O : Nat → Option Tag) (h : SysAt w2 O W.heap.size (Pk 0) nv ⟨List.replicate n 0, [], 0⟩) (ho : ∀ x, x < W.heap.size → O x = none) (hb : Below W.heap.size W w2) (h1 : 256 ≤ n) :
    Calls Tryd.prog 8 #[.pointer (some ⟨nv, 0, none⟩)] w2 fun e w3 => ∃ lb, e = .returned (.tuple #[.pointer (some ⟨lb, 0, none⟩), .nilIface]) ∧ ∃ M, LG w3 M W.heap.size nv lb (Pk 4) n ⟨1, 1, 0, 0⟩ [] ∧ Fresh W w3 M := by
  refine (format_any W.heap.size nv n 0 (List.replicate n 0) O w2 h (by simp) h1 (by unfold byteAt; cases n with
    | zero => omega
    | succ n => rfl) (by omega)).mono ?_
  rintro e w3 ⟨lb, he, hlb, M, q1, q2, q3⟩
  refine ⟨lb, he, M, q1, ⟨fun x hx q => ?_, ⟨q2.os.trans hb.os, q2.tape.trans hb.tape, q2.output.trans hb.output, Nat.le_trans hb.size q2.size, fun x hx => (q2.block x (Nat.lt_of_lt_of_le hx hb.size) (ho x hx)).trans (hb.block x hx)⟩⟩⟩
  exact q3 x (Nat.lt_of_lt_of_le hx hb.size) q (ho x hx)

theorem rb_lit1 (w : World) (x : UInt8) (z : Nat × Nat) : RB (w.alloc (.cells #[.int .u8 (x.toNat : Int)] 5 z)) (w.alloc (.cells #[.int .u8 (x.toNat : Int)] 5 z)).heap.size (some ⟨w.heap.size, 0, none⟩) [x] := fun k u hu => by
  have h := heap_alloc_new w (.cells #[.int .u8 (x.toNat : Int)] 5 z)
  refine ⟨_, rfl, by simp, ?_⟩
  rw [add_flat, Nat.zero_add]
  match k, hu with
  | 0, hu =>
    cases hu
    simp only [World.cell?, h]
    rfl
  | k + 1, hu => simp at hu
/-- a record of one letter is appended -/
theorem append_lit1 {W w : World} {M : Nat → Prop} {pw nv lb n : Nat} {b : Bd} {rs : List (List UInt8)} (x : UInt8) (z : Nat × Nat) (h : LG w M pw nv lb (Pk n) 1000 b rs ∧ Fresh W w M) (hl : 1 ≤ roomV 943 b.used) (hnx : b.next ≤ 1000) (hn : n ≤ 1000) :
    Calls Tryd.prog 12 #[.pointer (some ⟨lb, 0, none⟩), .slice (some ⟨w.heap.size, 0, none⟩) 1 1] (w.alloc (.cells #[.int .u8 (x.toNat : Int)] 5 z)) fun e w' => e = .returned (.tuple #[.int .u64 (b.next : Int), .int .i64 0]) ∧ ∃ M' n', n' ≤ n + 9 ∧ LG w' M' pw nv lb (Pk n') 1000 (longerB b 2) (rs ++ [[x]]) ∧ Fresh W w' M' := by
  obtain ⟨h1, h2⟩ := h
  have hb : Below w.heap.size w (w.alloc (.cells #[.int .u8 (x.toNat : Int)] 5 z)) := (Below.refl _ w).alloc (Nat.le_refl _) _
  refine ((h1.below hb).append (l := [x]) (c := 1) (rb_lit1 w x z) (fun _ ad e q => ?_) (Nat.le_refl _) (by simp) hl (by omega) (by show n + 1 ≤ _; omega)).mono ?_
  · cases e
    have := h1.fresh _ q
    exact Nat.lt_irrefl _ this
  · rintro e w' ⟨he, M', n', hn', q1, q2⟩
    have e2 : (encR [x]).length = 2 := by
      rw [encR_length]
      show (numBytes 1).length + 1 = 2
      rw [numBytes_lt (by decide)]
      rfl
    rw [e2] at q1
    exact ⟨he, M', n', hn', q1, (h2.below hb).step q2⟩

section
set_option maxRecDepth 20000
set_option maxHeartbeats 4000000
theorem known_any (W : World) : Calls Tryd.prog 5 #[] W fun e w' => e = .returned (.bool true) ∧ Below W.heap.size W w' := by
  have kc := fun (w : World) (C : Array Value) (n c : Nat) => Lib.run_convert_bytes_const (P := Tryd.prog) w 35 5 C n c Tryd.underlying35 Tryd.underlying5
  have Hb := Lib.hid (newPower_any W)
  go_enter Tryd.func5, Tryd.ntmps5
  go_wp2_with fail
  refine Hb.out.mono ?_
  rintro e w1 ⟨rfl, hp1, hb1⟩
  have Hn : Hid (Calls Tryd.prog 6 #[.pointer (some ⟨W.heap.size, 0, none⟩), .int .i64 1000] w1 _) := begin_dev W w1 1000 hp1 hb1 (by decide) (by decide)
  clear hp1 hb1 Hb
  go_wp2_with fail
  refine Hn.out.mono ?_
  rintro e w2 ⟨O, nv, rfl, s1, s2, s3⟩
  have Hf := Lib.hid (begin_log W w2 1000 nv O s1 s2 s3 (by decide))
  clear s1 s2 s3 Hn
  go_wp2_with fail
  refine Hf.out.mono ?_
  rintro e w3 ⟨lb, rfl, M3, l3, f3⟩
  clear Hf
  have H3 := Lib.hid (And.intro l3 f3)
  clear l3 f3
  go_wp2_with fail
  have H4 : Hid (Calls Tryd.prog 12 #[.pointer (some ⟨lb, 0, none⟩), .slice (some ⟨w3.heap.size, 0, none⟩) 1 1] (w3.alloc (.cells #[.int .u8 97] 5 (1, 2))) _) := append_lit1 97 (1, 2) H3.out (by decide) (by decide) (by decide)
  refine H4.out.mono ?_
  rintro e w4 ⟨rfl, M4, n4, hn4, l4, f4⟩
  clear H4 H3
  have H4 := Lib.hid (And.intro l4 f4)
  have Hn4 : Hid (n4 ≤ 13) := hn4
  clear l4 f4 hn4
  go_wp2_with fail
  have H5 : Hid (Calls Tryd.prog 12 #[.pointer (some ⟨lb, 0, none⟩), .slice (some ⟨w4.heap.size, 0, none⟩) 1 1] (w4.alloc (.cells #[.int .u8 98] 5 (1, 2))) _) := append_lit1 98 (1, 2) H4.out (by decide) (by decide) (by have := Hn4.out; omega)
  refine H5.out.mono ?_
  rintro e w5 ⟨rfl, M5, n5, hn5, l5, f5⟩
  clear H5 H4
  have Hn5 : Hid (n5 ≤ 22) := by have := Hn4.out; show _ ≤ _; omega
  have H6 : Hid (Calls Tryd.prog 11 #[.pointer (some ⟨lb, 0, none⟩), .int .u64 1] w5 fun e w' => e = .returned (.int .i64 0) ∧ ∃ M', LG w' M' W.heap.size nv lb (Pk (n5 + 4)) 1000 ⟨2, 3, 2, 2⟩ [[98]] ∧ Fresh W w' M') := by
    have l5' : LG w5 M5 W.heap.size nv lb (Pk n5) 1000 (longerB (longerB ⟨1, 1, 0, 0⟩ 2) 2) ([97] :: [[98]]) := l5
    refine (l5'.truncate (by have := Hn5.out; omega)).mono ?_
    rintro e w' ⟨he, M', q1, q2⟩
    have e2 : (encR [97]).length = 2 := by
      rw [encR_length]
      show (numBytes 1).length + 1 = 2
      rw [numBytes_lt (by decide)]
      rfl
    rw [e2] at q1
    exact ⟨he, M', q1, f5.step q2⟩
  clear l5 f5 hn5
  go_wp2_with fail
  refine H6.out.mono ?_
  rintro e w6 ⟨rfl, M6, l6, f6⟩
  clear H6
  have H7 : Hid (Calls Tryd.prog 13 #[.pointer (some ⟨nv, 0, none⟩)] w6 fun e w' => ∃ lb' g c x A cx, e = .returned (.tuple #[.pointer (some ⟨lb', 0, none⟩), .slice (some ⟨g, 0, none⟩) 1 c, .nilIface]) ∧ w'.cell? ⟨g, 0, none⟩ = some (.int .u64 2) ∧ w'.cell? ⟨g, 1, none⟩ = some x ∧ x = .slice A 1 cx ∧ (∀ w2, w2 = w' → (convert 35 9 (.slice A 1 cx)).run Tryd.prog w2 = .ok (.string ⟨#[98]⟩) w2) ∧
      Calls Tryd.prog 17 #[.pointer (some ⟨lb', 0, none⟩)] w' fun e w2 => e = .returned (.int .u64 3) ∧ Below W.heap.size W w2) := by
    refine (l6.opened rfl).mono ?_
    rintro e w' ⟨lb', v, he, hlb, ⟨M', q1, q2⟩, ⟨cs, r1, r2⟩, q4⟩
    have f7 := f6.step q2
    obtain ⟨x, p1, p2, p3⟩ := r2 0 [98] rfl
    obtain ⟨A, cx, rfl, _, hrb, _⟩ := p3.rb
    rcases r1.2 with ⟨_, h0⟩ | ⟨g, c, cur, rfl, _⟩
    · simp at h0
    have cc := World.ownsRow.cells r1 (g := g) rfl
    refine ⟨lb', g, c, _, A, cx, he, ?_, ?_, rfl, ?_, ?_⟩
    · have := cc 0 _ p1; rw [add_flat] at this; exact this
    · have := cc 1 _ p2; rw [add_flat] at this; exact this
    · rintro w2 rfl
      exact text_run w2 _ A [98] cx hrb
    · exact (q1.next rfl).mono fun e w2 ⟨he, _, q5⟩ => ⟨he, (f7.step q5).2⟩
  clear l6 f6
  go_wp2_with fail
  refine H7.out.mono ?_
  rintro e w7 ⟨lb', g, c, x, A, cx, rfl, c0, c1, rfl, htx, hnext⟩
  have htx' := htx w7 rfl
  have Hnx := Lib.hid hnext
  clear htx hnext H7
  go_wp2_with (go_at_call 17; refine Hnx.out.mono ?_; rintro e w8 ⟨rfl, hb8⟩; have Hb8 := Lib.hid hb8; clear hb8)
  go_ret
  exact ⟨rfl, Hb8.out⟩
end
end Go.Proofs.YtkjogkmdldplgaaDoor

/-
  NvlogRound, walked.
-/
namespace Go.Proofs.YtkjogkmdldplgaaDoor
open Go.RowKit

/-- the record with the number i + 1 -/
def pat (mo j : Nat) : List UInt8 := (List.range (j % (mo + 1))).map fun t => UInt8.ofNat (j + t)
theorem pat_length (mo j : Nat) : (pat mo j).length = j % (mo + 1) := by simp [pat]
theorem pat_get (mo j t : Nat) (h : t < j % (mo + 1)) : (pat mo j)[t]? = some (UInt8.ofNat (j + t)) := by simp [pat, h]
/-- the records from the number f on, i of them having been appended -/
def recsOf (mo f i : Nat) : List (List UInt8) := (List.range (i + 1 - f)).map fun k => pat mo (f - 1 + k)
theorem recsOf_length (mo f i : Nat) : (recsOf mo f i).length = i + 1 - f := by simp [recsOf]
theorem recsOf_get (mo f i k : Nat) (h : k < i + 1 - f) : (recsOf mo f i)[k]? = some (pat mo (f - 1 + k)) := by simp [recsOf, h]
theorem recsOf_start (mo : Nat) : recsOf mo 1 0 = [] := rfl
theorem recsOf_snoc (mo f i : Nat) (h1 : 1 ≤ f) (h : f ≤ i + 1) : recsOf mo f (i + 1) = recsOf mo f i ++ [pat mo i] := by
  unfold recsOf
  rw [show i + 1 + 1 - f = (i + 1 - f) + 1 by omega, List.range_succ, List.map_append, List.map_singleton, show f - 1 + (i + 1 - f) = i by omega]
theorem recsOf_cons (mo f i : Nat) (h1 : 1 ≤ f) (h : f ≤ i) : recsOf mo f i = pat mo (f - 1) :: recsOf mo (f + 1) i := by
  unfold recsOf
  rw [show i + 1 - f = (i + 1 - (f + 1)) + 1 by omega, List.range_succ_eq_map, List.map_cons, List.map_map]
  congr 1
  apply List.map_congr_left
  intro k _
  show pat mo (f - 1 + (k + 1)) = pat mo (f + 1 - 1 + k)
  rw [show f - 1 + (k + 1) = f + 1 - 1 + k by omega]
/-- k bytes are filled in -/
def fillL (mo i k : Nat) : List UInt8 := (pat mo i).take k ++ List.replicate (i % (mo + 1) - k) 0
theorem fillL_length (mo i k : Nat) (h : k ≤ i % (mo + 1)) : (fillL mo i k).length = i % (mo + 1) := by simp [fillL, pat_length]; omega
theorem fillL_set (mo i k : Nat) (h : k < i % (mo + 1)) : (fillL mo i k).set k (UInt8.ofNat (i + k)) = fillL mo i (k + 1) := by
  have hl : ((pat mo i).take k).length = k := by simp [pat_length]; omega
  unfold fillL
  rw [List.set_append_right _ _ (by omega), hl, Nat.sub_self, show i % (mo + 1) - k = (i % (mo + 1) - (k + 1)) + 1 by omega, List.replicate_succ, List.set_cons_zero, List.take_add_one, pat_get mo i k h]
  simp
theorem fillL_end (mo i : Nat) : fillL mo i (i % (mo + 1)) = pat mo i := by
  unfold fillL
  rw [List.take_of_length_le (by rw [pat_length]; exact Nat.le_refl _), Nat.sub_self]
  simp
/-- the log behind i records -/
structure RoundSt (W w : World) (pw nv lb S mo i f : Nat) (M : Nat → Prop) (nn : Nat) (b : Bd) : Prop where
  lg : LG w M pw nv lb (Pk nn) S b (recsOf mo f i)
  fr : Fresh W w M
  first : b.first = f
  next : b.next = i + 1
  f1 : 1 ≤ f
  f2 : f ≤ i + 1
  writes : nn ≤ 4 + 112 * i + 4 * f
theorem LG.holds {w : World} {M : Nat → Prop} {pw nv lb N : Nat} {P : Pow} {b : Bd} {rs : List (List UInt8)} (h : LG w M pw nv lb P N b rs) : ∃ m, m.length = N ∧ Holds m b rs := by
  obtain ⟨O, m, h1, h2, h3, h4, h5, h6⟩ := h
  exact ⟨m, h4, h5⟩
/-- the log and the bytes that are appended next -/
def RdW (W w : World) (pw nv lb S mo i g : Nat) (f : Nat) (M : Nat → Prop) (nn : Nat) (b : Bd) : Prop := RoundSt W w pw nv lb S mo i f M nn b ∧ ¬ M g ∧ Blk w g (pat mo i)
section
variable {W w w' : World} {pw nv lb S mo i g f nn : Nat} {M M' : Nat → Prop} {b : Bd}
theorem RdW.look (h : RdW W w pw nv lb S mo i g f M nn b) (h1 : LG w' M pw nv lb (Pk nn) S b (recsOf mo f i)) (h2 : ExtM w M w' M) : RdW W w' pw nv lb S mo i g f M nn b :=
  ⟨⟨h1, h.1.fr.step h2, h.1.first, h.1.next, h.1.f1, h.1.f2, h.1.writes⟩, h.2.1, (h2.1.block g h.2.2.lt h.2.1).trans h.2.2⟩
theorem RdW.room (h : RdW W w pw nv lb S mo i g f M nn b) : Calls Tryd.prog 9 #[.pointer (some ⟨lb, 0, none⟩)] w fun e w' => e = .returned (.int .i64 (roomV (S - 57) b.used)) ∧ RdW W w' pw nv lb S mo i g f M nn b :=
  (h.1.lg.room rfl).mono fun e w' ⟨he, h1, h2⟩ => ⟨he, h.look h1 h2⟩
theorem RdW.len (h : RdW W w pw nv lb S mo i g f M nn b) : Calls Tryd.prog 10 #[.pointer (some ⟨lb, 0, none⟩)] w fun e w' => e = .returned (.int .i64 ((i + 1 - f : Nat) : Int)) ∧ RdW W w' pw nv lb S mo i g f M nn b :=
  (h.1.lg.len rfl).mono fun e w' ⟨he, h1, h2⟩ => ⟨by rw [he, recsOf_length], h.look h1 h2⟩
theorem RdW.trunc (h : RdW W w pw nv lb S mo i g f M nn b) (hf : f ≤ i) (hi : i ≤ 1000) : Calls Tryd.prog 11 #[.pointer (some ⟨lb, 0, none⟩), .int .u64 (f : Int)] w fun e w' => e = .returned (.int .i64 0) ∧ ∃ M' nn' b', RdW W w' pw nv lb S mo i g (f + 1) M' nn' b' := by
  have hl := h.1.lg
  rw [recsOf_cons mo f i h.1.f1 hf] at hl
  have := hl.truncate (by have := h.1.writes; omega)
  rw [h.1.first] at this
  refine this.mono ?_
  rintro e w' ⟨he, M', q1, q2⟩
  exact ⟨he, M', _, _, ⟨q1, h.1.fr.step q2, by show b.first + 1 = _; rw [h.1.first], h.1.next, by omega, by omega, by have := h.1.writes; omega⟩, fun q => h.2.1 (q2.2 g h.2.2.lt q), (q2.1.block g h.2.2.lt h.2.1).trans h.2.2⟩
theorem RdW.app (h : RdW W w pw nv lb S mo i g f M nn b) (hi : i ≤ 1000) (hmo : mo ≤ 100) {L : Nat} (hL : L = i % (mo + 1)) (hr : (L : Int) ≤ roomV (S - 57) b.used) : Calls Tryd.prog 12 #[.pointer (some ⟨lb, 0, none⟩), .slice (some ⟨g, 0, none⟩) L L] w fun e w' => e = .returned (.tuple #[.int .u64 ((i : Int) + 1), .int .i64 0]) ∧ ∃ M' nn' b', RoundSt W w' pw nv lb S mo (i + 1) f M' nn' b' := by
  have hlen : (pat mo i).length = L := by rw [pat_length, hL]
  have hL2 := Nat.mod_lt i (show 0 < mo + 1 by omega)
  have := h.1.lg.append (A := some ⟨g, 0, none⟩) (c := L) (l := pat mo i) ((h.2.2.rb 0).wide h.2.2.lt) (fun _ ad e q => by cases e; exact h.2.1 q) (by omega) (by omega) (by rw [hlen]; exact hr) (by have := h.1.next; omega) (by have := h.1.writes; have := h.1.f2; omega)
  rw [hlen] at this
  refine this.mono ?_
  rintro e w' ⟨he, M', n', hn', q1, q2⟩
  rw [← recsOf_snoc mo f i h.1.f1 h.1.f2] at q1
  refine ⟨by rw [he, h.1.next]; rfl, M', n', _, q1, h.1.fr.step q2, h.1.first, by show b.next + 1 = _; rw [h.1.next], h.1.f1, by have := h.1.f2; omega, by have := h.1.writes; omega⟩
/-- without records there is room enough -/
theorem RdW.none_left (h : RdW W w pw nv lb S mo i g f M nn b) (hf : ¬ f ≤ i) (hS : 600 ≤ S) : roomV (S - 57) b.used = (S : Int) - 61 ∧ i + 1 - f = 0 := by
  have hf2 := h.1.f2
  have he : i + 1 - f = 0 := by omega
  obtain ⟨m, hm, hh⟩ := h.1.lg.holds
  have hu := hh.used_eq
  have hr : recsOf mo f i = [] := List.eq_nil_of_length_eq_zero (by rw [recsOf_length]; exact he)
  rw [hr] at hu
  have hu0 : b.used = 0 := hu
  refine ⟨?_, he⟩
  unfold roomV
  rw [hu0]
  omega
end
section
set_option maxRecDepth 20000
set_option maxHeartbeats 8000000
theorem round_out (s0 n0 m0 k0 : Int) (W : World) (hC : ¬ (600 ≤ s0 ∧ s0 ≤ 16384 ∧ 1 ≤ n0 ∧ n0 ≤ 1000 ∧ 0 ≤ m0 ∧ m0 ≤ 100 ∧ 1 ≤ k0 ∧ k0 ≤ 1000)) : Calls Tryd.prog 3 #[.int .i64 s0, .int .i64 n0, .int .i64 m0, .int .i64 k0] W fun e w' => e = .returned (.bool true) ∧ Below W.heap.size W w' := by
  have Hk := Lib.hid (known_any W)
  have HC := Lib.hid hC
  clear hC
  go_enter Tryd.func3, Tryd.ntmps3
  go_wp2_with fail
  refine Hk.out.mono ?_
  rintro e w0 ⟨rfl, hb0⟩
  have Hb0 := Lib.hid hb0
  clear hb0 Hk
  go_wp2_with fail
  any_goals (go_ret; exact ⟨rfl, Hb0.out⟩)
  exfalso
  have := HC.out
  omega
theorem round_in (S N mo ke : Nat) (W : World) (h1 : 600 ≤ S) (h2 : S ≤ 16384) (h3 : 1 ≤ N) (h4 : N ≤ 1000) (h5 : mo ≤ 100) (h6 : 1 ≤ ke) (h7 : ke ≤ 1000) : Calls Tryd.prog 3 #[.int .i64 (S : Int), .int .i64 (N : Int), .int .i64 (mo : Int), .int .i64 (ke : Int)] W fun e w' => e = .returned (.bool true) ∧ Below W.heap.size W w' := by
  have Hk := Lib.hid (known_any W)
  have Hc := Lib.hid (And.intro h1 (And.intro h2 (And.intro h3 (And.intro h4 (And.intro h5 (And.intro h6 h7))))))
  have j1 : (600 : Int) ≤ (S : Int) := by omega
  have j2 : (S : Int) ≤ 16384 := by omega
  have j3 : (1 : Int) ≤ (N : Int) := by omega
  have j4 : (N : Int) ≤ 1000 := by omega
  have j5 : (0 : Int) ≤ (mo : Int) := by omega
  have j6 : (mo : Int) ≤ 100 := by omega
  have j7 : (1 : Int) ≤ (ke : Int) := by omega
  have j8 : (ke : Int) ≤ 1000 := by omega
  have d1 : decide ((S : Int) < 600) = false := by simp; omega
  have d2 : decide ((16384 : Int) < (S : Int)) = false := by simp; omega
  have d3 : decide ((N : Int) < 1) = false := by simp; omega
  have d4 : decide ((1000 : Int) < (N : Int)) = false := by simp; omega
  have d5 : decide ((mo : Int) < 0) = false := by simp
  have d6 : decide ((100 : Int) < (mo : Int)) = false := by simp; omega
  have d7 : decide ((ke : Int) < 1) = false := by simp; omega
  have d8 : decide ((1000 : Int) < (ke : Int)) = false := by simp; omega
  clear h1 h2 h3 h4 h5 h6 h7
  go_enter Tryd.func3, Tryd.ntmps3
  go_wp2_with fail
  refine Hk.out.mono ?_
  rintro e w0 ⟨rfl, hb0⟩
  have Hb0 := Lib.hid hb0
  clear hb0 Hk
  go_wp2_with fail
  clear d1 d2 d3 d4 d5 d6 d7 d8
  refine (newPower_any w0).mono ?_
  rintro e w1 ⟨rfl, hp1, hb1⟩
  have Hn := Lib.hid (begin_dev w0 w1 S hp1 hb1 (by have := Hc.out; omega) (by have := Hc.out; omega))
  clear hp1 hb1
  go_wp2_with fail
  refine Hn.out.mono ?_
  rintro e w2 ⟨O, nv, rfl, s1, s2, s3⟩
  have Hf := Lib.hid (begin_log w0 w2 S nv O s1 s2 s3 (by have := Hc.out; omega))
  clear s1 s2 s3 Hn
  go_wp2_with fail
  refine Hf.out.mono ?_
  rintro e w3 ⟨lb, rfl, M3, l3, f3⟩
  clear Hf
  have H3 : Hid (∃ M nn b, RoundSt w0 w3 w0.heap.size nv lb S mo 0 1 M nn b) := ⟨M3, 4, _, l3, f3, rfl, rfl, Nat.le_refl _, Nat.le_refl _, by omega⟩
  clear l3 f3
  go_wp2_with fail
  go_loopw [13, 14] (fun fv iv wr => ∃ f i : Nat, fv = .int .u64 (f : Int) ∧ iv = .int .i64 (i : Int) ∧ i ≤ N ∧ Hid (∃ M nn b, RoundSt w0 wr w0.heap.size nv lb S mo i f M nn b)) (fun _ iv _ => N - (intOf iv).toNat)
  case atStart => exact ⟨1, 0, rfl, rfl, Nat.zero_le _, H3.out⟩
  case round =>
    obtain ⟨f, i, rfl, rfl, hi, hst⟩ := hrel
    obtain ⟨wo, rfl⟩ : ∃ wo : World, wo = wr := ⟨_, rfl⟩
    by_cases hiN : i < N
    · have hiN' : (i : Int) < (N : Int) := by omega
      obtain ⟨L, hL⟩ : ∃ L : Nat, L = i % (mo + 1) := ⟨_, rfl⟩
      have hre : (i : Int) % ((mo : Int) + 1) = (L : Int) := by rw [hL]; rfl
      have hL1 : L ≤ mo := by have := Nat.mod_lt i (show 0 < mo + 1 by omega); omega
      have HL : Hid (L = i % (mo + 1)) := hL
      obtain ⟨cs, Hcs, hmk⟩ := make_run L (by have := Hc.out; omega)
      have hmk' := hmk wo
      clear hL hmk
      go_wp2_with fail
      have hb4 : Blk (wo.alloc (.cells cs 5)) wo.heap.size (fillL mo i 0) := by
        have h := heap_alloc_new wo (.cells cs 5)
        rw [Hcs.out] at h
        have e : fillL mo i 0 = List.replicate L 0 := by unfold fillL; rw [List.take_zero, Nat.sub_zero, ← HL.out]; rfl
        unfold Blk
        rw [Hcs.out, e]
        exact h
      have k4 : Kept (fun x => x ≠ wo.heap.size) wo (wo.alloc (.cells cs 5)) := (Kept.refl _ wo).alloc _
      have H4 := Lib.hid (And.intro hb4 k4)
      clear hb4 k4 hmk' Hcs
      generalize wo.alloc (.cells cs 5) = w4 at H4 ⊢
      have hLi : (L : Int) ≤ 100 := by omega
      go_loopw [16] (fun kv wr => ∃ k : Nat, kv = .int .i64 (k : Int) ∧ k ≤ L ∧ Hid (Blk wr wo.heap.size (fillL mo i k) ∧ Kept (fun x => x ≠ wo.heap.size) wo wr)) (fun kv _ => L - (intOf kv).toNat)
      case atStart => exact ⟨0, rfl, Nat.zero_le _, H4.out⟩
      case round =>
        obtain ⟨k, rfl, hkL, hrel5⟩ := hrel
        by_cases hk : k < L
        · have hk' : (k : Int) < (L : Int) := by omega
          obtain ⟨y, hy⟩ : ∃ y : Nat, y = (UInt8.ofNat (i + k)).toNat := ⟨_, rfl⟩
          have hw8 : ((i : Int) + (k : Int)) % 256 = (y : Int) := by rw [hy, UInt8.toNat_ofNat']; omega
          have hflen := fillL_length mo i k (by rw [← HL.out]; exact hkL)
          have cc := hrel5.out.1.cell (i := k) (by rw [hflen, ← HL.out]; exact hk)
          have ff := hrel5.out.1.frozen k
          have Hnx : Hid (Blk (wr.setCell ⟨wo.heap.size, k, none⟩ (.int .u8 (y : Int))) wo.heap.size (fillL mo i (k + 1)) ∧ Kept (fun x => x ≠ wo.heap.size) wo (wr.setCell ⟨wo.heap.size, k, none⟩ (.int .u8 (y : Int)))) := by
            have h1 := hrel5.out.1.set k (UInt8.ofNat (i + k))
            rw [fillL_set mo i k (by rw [← HL.out]; exact hk), ← hy] at h1
            exact ⟨h1, hrel5.out.2.setCell (fun h => h rfl) _⟩
          clear hy
          go_wp2_with fail
          go_roundw
          case rel => exact ⟨k + 1, by go_num, by omega, Hnx.out⟩
          case measure => simp [intOf]; omega
        · obtain rfl : k = L := by omega
          have H5 : Hid (∃ M nn b, RdW w0 wr w0.heap.size nv lb S mo i wo.heap.size f M nn b) := by
            obtain ⟨M, nn, b, hs⟩ := hst.out
            obtain ⟨q1, q2⟩ := hrel5.out
            have hMg : ¬ M wo.heap.size := fun q => by have := hs.lg.fresh _ q; omega
            rw [HL.out, fillL_end] at q1
            have hk5 : Kept M wo wr := q2.mono fun x hx _ => by omega
            exact ⟨M, nn, b, ⟨hs.lg.kept hk5, hs.fr.step ⟨q2.mono fun x hx _ => by omega, fun _ _ h => h⟩, hs.first, hs.next, hs.f1, hs.f2, hs.writes⟩, hMg, q1⟩
          obtain ⟨G, hG⟩ : ∃ G, G = wo.heap.size := ⟨_, rfl⟩
          rw [← hG] at H5 ⊢
          clear hrel5 hst H4 hkL hk hre hG
          obtain ⟨w5, rfl⟩ : ∃ w5 : World, w5 = wr := ⟨_, rfl⟩
          go_wp2_with fail
          go_loopw [13] (fun fv wr => ∃ f2 : Nat, fv = .int .u64 (f2 : Int) ∧ Hid (∃ M nn b, RdW w0 wr w0.heap.size nv lb S mo i G f2 M nn b)) (fun fv _ => i + 1 - (intOf fv).toNat)
          case atStart => exact ⟨f, rfl, H5.out⟩
          case round =>
            obtain ⟨f2, rfl, hrd⟩ := hrel
            obtain ⟨M, nn, b, hr⟩ := hrd.out
            have Hr := Lib.hid hr
            have hf2 : f2 ≤ i + 1 := hr.1.f2
            have hf3 : (f2 : Int) ≤ 1001 := by omega
            have Hnone := Lib.hid (fun hf => hr.none_left hf (Hc.out.1))
            obtain ⟨r, hrr⟩ : ∃ r, r = roomV (S - 57) b.used := ⟨_, rfl⟩
            obtain ⟨c, hc⟩ : ∃ c : Nat, c = i + 1 - f2 := ⟨_, rfl⟩
            have HRoom : Hid (Calls Tryd.prog 9 #[.pointer (some ⟨lb, 0, none⟩)] wr fun e w' => e = .returned (.int .i64 r) ∧ RdW w0 w' w0.heap.size nv lb S mo i G f2 M nn b) := by rw [hrr]; exact hr.room
            have HLen : Hid (∀ w6, RdW w0 w6 w0.heap.size nv lb S mo i G f2 M nn b → Calls Tryd.prog 10 #[.pointer (some ⟨lb, 0, none⟩)] w6 fun e w' => e = .returned (.int .i64 (c : Int)) ∧ RdW w0 w' w0.heap.size nv lb S mo i G f2 M nn b) := fun w6 h6 => by rw [hc]; exact h6.len
            have hcle : (c : Int) ≤ 1001 := by omega
            have hHc := Hc.out
            have hbig : ¬ f2 ≤ i → k < r ∧ c = 0 := fun q => by
              obtain ⟨z1, z2⟩ := Hnone.out q
              rw [hrr, z1]
              omega
            have hap : Hid (r = roomV (S - 57) b.used) := hrr
            clear hr hrr Hnone hrd
            by_cases hA : r < (k : Int)
            · have hfi : f2 ≤ i := by
                by_cases q : f2 ≤ i
                · exact q
                · have := (hbig q).1; omega
              have hcz : ((c : Int) == 0) = false := by simp; omega
              have HTr : Hid (∀ w7, RdW w0 w7 w0.heap.size nv lb S mo i G f2 M nn b → Calls Tryd.prog 11 #[.pointer (some ⟨lb, 0, none⟩), .int .u64 (f2 : Int)] w7 fun e w' => e = .returned (.int .i64 0) ∧ ∃ M' nn' b', RdW w0 w' w0.heap.size nv lb S mo i G (f2 + 1) M' nn' b') := fun w7 h7 => h7.trunc hfi (by omega)
              have Hme : Hid (i + 1 - (f2 + 1) < i + 1 - f2) := by show _ < _; omega
              clear hc hHc hbig hf2
              go_wp2_with fail
              refine HRoom.out.mono ?_
              rintro e w6 ⟨rfl, h6⟩
              have HL6 := Lib.hid (HLen.out w6 h6)
              clear h6
              go_wp2_with fail
              refine HL6.out.mono ?_
              rintro e w7 ⟨rfl, h7⟩
              have HT7 := Lib.hid (HTr.out w7 h7)
              clear h7 HL6
              go_wp2_with fail
              refine HT7.out.mono ?_
              rintro e w8 ⟨rfl, h8⟩
              have H8 := Lib.hid h8
              clear h8 HT7 HTr HLen HRoom
              go_wp2_with fail
              go_roundw
              case rel => exact ⟨f2 + 1, by go_num, H8.out⟩
              case measure => have := Hme.out; simp [intOf]; omega
            · have hA' : (k : Int) ≤ r := by omega
              by_cases hB : (ke : Int) ≤ (c : Int)
              · have hfi : f2 ≤ i := by
                  by_cases q : f2 ≤ i
                  · exact q
                  · have := (hbig q).2; omega
                have hcz : ((c : Int) == 0) = false := by simp; omega
                have HTr : Hid (∀ w7, RdW w0 w7 w0.heap.size nv lb S mo i G f2 M nn b → Calls Tryd.prog 11 #[.pointer (some ⟨lb, 0, none⟩), .int .u64 (f2 : Int)] w7 fun e w' => e = .returned (.int .i64 0) ∧ ∃ M' nn' b', RdW w0 w' w0.heap.size nv lb S mo i G (f2 + 1) M' nn' b') := fun w7 h7 => h7.trunc hfi (by omega)
                have Hme : Hid (i + 1 - (f2 + 1) < i + 1 - f2) := by show _ < _; omega
                clear hc hHc hbig hf2 hA
                go_wp2_with fail
                refine HRoom.out.mono ?_
                rintro e w6 ⟨rfl, h6⟩
                have HL6 := Lib.hid (HLen.out w6 h6)
                clear h6
                go_wp2_with fail
                refine HL6.out.mono ?_
                rintro e w7 ⟨rfl, h7⟩
                have HL7 := Lib.hid (HLen.out w7 h7)
                clear h7 HL6
                go_wp2_with fail
                refine HL7.out.mono ?_
                rintro e w8 ⟨rfl, h8⟩
                have HT8 := Lib.hid (HTr.out w8 h8)
                clear h8 HL7
                go_wp2_with fail
                refine HT8.out.mono ?_
                rintro e w9 ⟨rfl, h9⟩
                have H9 := Lib.hid h9
                clear h9 HT8 HTr HLen HRoom
                go_wp2_with fail
                go_roundw
                case rel => exact ⟨f2 + 1, by go_num, H9.out⟩
                case measure => have := Hme.out; simp [intOf]; omega
              · have hB' : (c : Int) < (ke : Int) := by omega
                have HApp : Hid (∀ w7, RdW w0 w7 w0.heap.size nv lb S mo i G f2 M nn b → Calls Tryd.prog 12 #[.pointer (some ⟨lb, 0, none⟩), .slice (some ⟨G, 0, none⟩) k k] w7 fun e w' => e = .returned (.tuple #[.int .u64 ((i : Int) + 1), .int .i64 0]) ∧ ∃ M' nn' b', RoundSt w0 w' w0.heap.size nv lb S mo (i + 1) f2 M' nn' b') := fun w7 h7 => h7.app (by omega) hHc.2.2.2.2.1 HL.out (by rw [← hap.out]; exact hA')
                have hii : (i : Int) ≤ 1000 := by omega
                clear hc hHc hbig hf2 hA hB
                go_wp2_with fail
                refine HRoom.out.mono ?_
                rintro e w6 ⟨rfl, h6⟩
                have HL6 := Lib.hid (HLen.out w6 h6)
                clear h6
                go_wp2_with fail
                refine HL6.out.mono ?_
                rintro e w7 ⟨rfl, h7⟩
                have HA7 := Lib.hid (HApp.out w7 h7)
                clear h7 HL6 HApp HLen HRoom
                go_wp2_with fail
                refine HA7.out.mono ?_
                rintro e w8 ⟨rfl, h8⟩
                have H8 := Lib.hid h8
                clear h8 HA7
                go_wp2_with fail
                go_roundw
                case rel => exact ⟨f2, i + 1, rfl, by go_num, by omega, H8.out⟩
                case measure => simp [intOf]; omega
    · obtain rfl : i = N := by omega
      obtain ⟨cN, hcN⟩ : ∃ cN : Nat, cN = i + 1 - f := ⟨_, rfl⟩
      have HO : Hid (f ≤ i + 1 ∧ 1 ≤ f ∧ Calls Tryd.prog 13 #[.pointer (some ⟨nv, 0, none⟩)] wo fun e w9 => ∃ lb' A c, e = .returned (.tuple #[.pointer (some ⟨lb', 0, none⟩), .slice A cN c, .nilIface]) ∧ RecsAt w9 wo.heap.size (.slice A cN c) f (recsOf mo f i) ∧ Below w0.heap.size w0 w9) := by
        obtain ⟨M, nn, b, hs⟩ := hst.out
        refine ⟨hs.f2, hs.f1, (hs.lg.opened rfl).mono ?_⟩
        rintro e w9 ⟨lb', v, he, _, ⟨M', q1, q2⟩, q3, q4⟩
        obtain ⟨A, c, rfl⟩ := q3.slice
        rw [recsOf_length, ← hcN] at he q3
        rw [hs.first] at q3
        exact ⟨lb', A, c, he, q3, (hs.fr.step q2).2⟩
      have hf2 := HO.out.1
      have hf1 := HO.out.2.1
      have hHc := Hc.out
      have hnf : (i : Int) - (f : Int) + 1 = (cN : Int) := by omega
      have hfi : (f : Int) ≤ 1001 := by omega
      have hcN1 : (cN : Int) ≤ 1001 := by omega
      have Hcn : Hid (cN = i + 1 - f ∧ 1 ≤ f ∧ i ≤ 1000) := ⟨hcN, hf1, by omega⟩
      clear hst hiN hcN hf2 hf1 hHc hi
      go_wp2_with fail
      refine HO.out.2.2.mono ?_
      rintro e w9 ⟨lb', A, c, rfl, hr9, hb9⟩
      have H9 : Hid (RecsAt w9 wo.heap.size (.slice A cN c) f (recsOf mo f i) ∧ Below w0.heap.size w0 w9) := ⟨hr9, hb9⟩
      clear hr9 hb9 HO
      go_wp2_with fail
      go_loopw [21] (fun qv wr => ∃ q : Nat, qv = .int .i64 (q : Int) ∧ q ≤ cN ∧ Hid (RecsAt wr wo.heap.size (.slice A cN c) f (recsOf mo f i) ∧ Below w0.heap.size w0 wr)) (fun qv _ => cN - (intOf qv).toNat)
      case atStart => exact ⟨0, rfl, Nat.zero_le _, H9.out⟩
      case round =>
        obtain ⟨q, rfl, hq, hrs⟩ := hrel
        by_cases hqc : q < cN
        · obtain ⟨K, hK⟩ : ∃ K : Nat, K = f - 1 + q := ⟨_, rfl⟩
          obtain ⟨Lq, hLq⟩ : ∃ Lq : Nat, Lq = K % (mo + 1) := ⟨_, rfl⟩
          have Hcell : Hid (∃ g ga ca, A = some ⟨g, 0, none⟩ ∧ (∀ z, (wr.drewN z).cell? ⟨g, q * 2, none⟩ = some (.int .u64 ((K : Int) + 1)) ∧ (wr.drewN z).cell? ⟨g, q * 2 + 1, none⟩ = some (.slice ga Lq ca)) ∧ ∀ j, j < Lq → ∃ gb, ga = some ⟨gb, 0, none⟩ ∧ ∀ z, (wr.drewN z).cell? ⟨gb, j, none⟩ = some (.int .u8 ((UInt8.ofNat (K + j)).toNat : Int))) := by
            have hcn := Hcn.out
            obtain ⟨⟨cs, r1, r2⟩, _⟩ := hrs.out
            obtain ⟨x, p1, p2, p3⟩ := r2 q (pat mo K) (by rw [recsOf_get mo f i q (by omega), hK])
            obtain ⟨ga, ca, rfl, _, _, _⟩ := p3.rb
            rcases r1.2 with ⟨_, h0⟩ | ⟨g, cap, cur, hv, _⟩
            · rw [recsOf_length] at h0; omega
            · cases hv
              have cc := World.ownsRow.cells r1 (g := g) rfl
              have e1 := cc _ _ p1
              have e2 := cc _ _ p2
              rw [add_flat, Nat.zero_add] at e1 e2
              rw [show ((f + q : Nat) : Int) = (K : Int) + 1 by omega, show 2 * q = q * 2 by omega] at e1
              rw [show 2 * q + 1 = q * 2 + 1 by omega, pat_length, ← hLq] at e2
              refine ⟨g, ga, ca, rfl, fun z => ⟨e1, e2⟩, fun j hj => ?_⟩
              obtain ⟨gb, cap', hv', _, _, _, hform⟩ := p3.form (by rw [pat_length]; omega)
              cases hv'
              have hrb := (p3.rb)
              obtain ⟨A3, c3, hv3, _, hrb3, _⟩ := hrb
              cases hv3
              have hjl : j < (pat mo K).length := by rw [pat_length]; omega
              obtain ⟨ad, hae, _, hcc⟩ := hrb3.at_ hjl
              cases hae
              rw [add_flat, Nat.zero_add] at hcc
              have hgt := pat_get mo K j (by omega)
              rw [List.getElem?_eq_getElem hjl] at hgt
              rw [Option.some.inj hgt] at hcc
              exact ⟨gb, rfl, fun z => hcc⟩
          obtain ⟨g, ga, ca, rfl, hc2, hby⟩ := Hcell.out
          have c0 : wr.cell? ⟨g, q * 2, none⟩ = some (.int .u64 ((K : Int) + 1)) := (hc2 0).1
          have c1 : wr.cell? ⟨g, q * 2 + 1, none⟩ = some (.slice ga Lq ca) := (hc2 0).2
          have Hby := Lib.hid hby
          have HC2 := Lib.hid hc2
          have hkk : (f : Int) + (q : Int) - 1 = (K : Int) := by have := Hcn.out; omega
          have hkm : (K : Int) % ((mo : Int) + 1) = (Lq : Int) := by rw [hLq]; rfl
          have hK1 : (K : Int) ≤ 2002 := by have := Hcn.out; omega
          have hqc' : (q : Int) < (cN : Int) := by omega
          have hLq1 : (Lq : Int) ≤ 100 := by have := Nat.mod_lt K (show 0 < mo + 1 by omega); have := Hc.out; omega
          clear hK hLq hc2 hby Hcell hq
          go_wp2_with fail
          go_quiet (fail)
          have c0' := (HC2.out nq).1
          have c1' := (HC2.out nq).2
          have Hre : Hid (RecsAt (wr.drewN nq) wo.heap.size (.slice (some ⟨g, 0, none⟩) cN c) f (recsOf mo f i) ∧ Below w0.heap.size w0 (wr.drewN nq)) := ⟨Rows2.recs (w := wr) (fun x cur t y hg _ => rfl) hrs.out.1, drewN_below hrs.out.2 nq⟩
          clear c0 c1 HC2 hrs
          go_wp2_with fail
          go_loop [23] (fun jv => ∃ j : Nat, jv = .int .i64 (j : Int) ∧ j ≤ Lq) (fun jv => Lq - (intOf jv).toNat)
          case atStart => exact ⟨0, rfl, Nat.zero_le _⟩
          case round =>
            obtain ⟨j, rfl, hj⟩ := hrel
            by_cases hjl : j < Lq
            · obtain ⟨gb, rfl, hcj⟩ := Hby.out j hjl
              have cj := hcj nq
              obtain ⟨y, hy⟩ : ∃ y : Nat, y = (UInt8.ofNat (K + j)).toNat := ⟨_, rfl⟩
              have hw8 : ((K : Int) + (j : Int)) % 256 = (y : Int) := by rw [hy, UInt8.toNat_ofNat']; omega
              rw [← hy] at cj
              have hjl' : (j : Int) < (Lq : Int) := by omega
              clear hcj hy
              go_wp2_with fail
              exact ⟨⟨j + 1, by go_num, by omega⟩, by simp [intOf]; omega⟩
            · obtain rfl : j = Lq := by omega
              clear hjl hj
              go_wp2_with fail
              go_roundw
              case rel => exact ⟨q + 1, by go_num, by omega, Hre.out⟩
              case measure => simp [intOf]; omega
        · obtain rfl : q = cN := by omega
          clear hqc hq
          go_wp2_with fail
          go_ret
          exact ⟨rfl, Hb0.out.trans (hrs.out.2.mono Hb0.out.size)⟩
theorem round_any (s0 n0 m0 k0 : Int) (W : World) : Calls Tryd.prog 3 #[.int .i64 s0, .int .i64 n0, .int .i64 m0, .int .i64 k0] W fun e w' => e = .returned (.bool true) ∧ Below W.heap.size W w' := by
  by_cases hC : (600 ≤ s0 ∧ s0 ≤ 16384 ∧ 1 ≤ n0 ∧ n0 ≤ 1000 ∧ 0 ≤ m0 ∧ m0 ≤ 100 ∧ 1 ≤ k0 ∧ k0 ≤ 1000)
  · obtain ⟨S, rfl⟩ : ∃ S : Nat, s0 = (S : Int) := ⟨s0.toNat, by omega⟩
    obtain ⟨N, rfl⟩ : ∃ S : Nat, n0 = (S : Int) := ⟨n0.toNat, by omega⟩
    obtain ⟨mo, rfl⟩ : ∃ S : Nat, m0 = (S : Int) := ⟨m0.toNat, by omega⟩
    obtain ⟨ke, rfl⟩ : ∃ S : Nat, k0 = (S : Int) := ⟨k0.toNat, by omega⟩
    exact round_in S N mo ke W (by omega) (by omega) (by omega) (by omega) (by omega) (by omega) (by omega)
  · exact round_out s0 n0 m0 k0 W hC
end
end Go.Proofs.YtkjogkmdldplgaaDoor

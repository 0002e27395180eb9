/-
  The law's chapter example, walked.
-/
import Derived.Test.YtoeeppecinjiiaaNv15
import Derived.Test.YtoeeppecinjiiaaZText
import Derived.Lib.SlBytesConst
namespace Go.Proofs.Ytoeeppecinjiiaa
open Go.RowKit

def Pk (n : Nat) : Pow := ⟨false, n, 0, []⟩
theorem wr_ok (n : Nat) (D : Dev) (at_ : Int) (ls : List (List UInt8)) (hf : fitB D.mem.length at_ ls = true) : wrCode (Pk n) D.mem.length at_ ls = 0 ∧ wrP (Pk n) D.mem.length at_ ls = Pk (n + 1) ∧ wrD (Pk n) D at_ ls = D.putAll at_.toNat ls := by
  unfold wrCode wrP wrD
  rw [hf]
  exact ⟨rfl, rfl, rfl⟩
theorem per_ok (n : Nat) (D : Dev) : perCode (Pk n) = 0 ∧ perP (Pk n) = Pk (n + 1) ∧ perD (Pk n) D = D.settle := ⟨rfl, rfl, rfl⟩
/-- one part, whose bytes lie in memory that nobody owns -/
theorem PartsOk.one {w : World} {O : Nat → Option Tag} {A : Option Addr} {l : List UInt8} {c : Nat} {t : TypeId} {pw nv : Nat} {P : Pow} {D : Dev} (h : SysAt w O pw P nv D) (hr : RB w w.heap.size A l) (hA : l ≠ [] → ∀ ad, A = some ad → O ad.block = none) :
    PartsOk (w.alloc (.cells #[.slice A l.length c] t)) O w.heap.size [l] := by
  refine ⟨by simp, h.free (Nat.le_refl _), fun k x hx => ?_⟩
  match k, hx with
  | 0, hx =>
    cases hx
    exact ⟨A, c, (Cells.new w #[.slice A l.length c] t).cell (i := 0) rfl, (hr.alloc (Nat.le_refl _) _).wide (by simp), hA⟩

theorem rb_lit2 (w : World) (x y : UInt8) : RB (w.alloc (.cells #[.int .u8 (x.toNat : Int), .int .u8 (y.toNat : Int)] 5 (2, 3))) (w.alloc (.cells #[.int .u8 (x.toNat : Int), .int .u8 (y.toNat : Int)] 5 (2, 3))).heap.size (some ⟨w.heap.size, 0, none⟩) [x, y] := fun k u hu => by
  have h := heap_alloc_new w (.cells #[.int .u8 (x.toNat : Int), .int .u8 (y.toNat : Int)] 5 (2, 3))
  refine ⟨_, rfl, by simp, ?_⟩
  rw [add_flat, Nat.zero_add]
  match k, hu with
  | 0, hu =>
    cases hu
    simp only [World.cell?, h]
    rfl
  | 1, hu =>
    cases hu
    simp only [World.cell?, h]
    rfl
  | k + 2, hu => simp at hu
structure Solo (w0 : World) (pw nv : Nat) (P : Pow) (D : Dev) (w : World) : Prop where
  st : ∃ O, SysAt w O pw P nv D ∧ ∀ b, b < w0.heap.size → O b = none
  bel : Below w0.heap.size w0 w
section
variable {w0 w w' : World} {pw nv n : Nat} {P P' : Pow} {D D' : Dev} {v : Value} {f : FuncId} {args : Array Value}
theorem below_ext {O O' : Nat → Option Tag} (h : Below w0.heap.size w0 w) (hx : Ext w O w' O') (ho : ∀ b, b < w0.heap.size → O b = none) : Below w0.heap.size w0 w' :=
  ⟨hx.1.os.trans h.os, hx.1.tape.trans h.tape, hx.1.output.trans h.output, Nat.le_trans h.size hx.1.size, fun b hb => (hx.1.block b (Nat.lt_of_lt_of_le hb h.size) (ho b hb)).trans (h.block b hb)⟩
theorem Solo.step (h : Solo w0 pw nv P D w) (hc : ∀ O, SysAt w O pw P nv D → (∀ b, b < w0.heap.size → O b = none) → Calls Try.prog f args w (SysPost w O pw P' nv D' v)) :
    Calls Try.prog f args w fun e w' => e = .returned v ∧ Solo w0 pw nv P' D' w' := by
  obtain ⟨O, h1, h2⟩ := h.st
  exact (hc O h1 h2).mono fun e w' ⟨O', he, s1, s2⟩ => ⟨he, ⟨⟨O', s1, fun b hb => (s2.2 b (Nat.lt_of_lt_of_le hb h.bel.size)).trans (h2 b hb)⟩, below_ext h.bel s2 h2⟩⟩
theorem SysAt.more {O : Nat → Option Tag} {W : World} (h : SysAt w O pw P nv D) (hW : Kept (fun b => b < w.heap.size) w W) : SysAt W O pw P nv D := h.kept (hW.mono fun b hb _ => hb)
/-- a step at a world that holds more blocks of the caller's -/
theorem Solo.stepAt {W : World} (h : Solo w0 pw nv P D w) (hW : Kept (fun b => b < w.heap.size) w W) (hc : ∀ O, SysAt w O pw P nv D → SysAt W O pw P nv D → (∀ b, b < w0.heap.size → O b = none) → Calls Try.prog f args W (SysPost W O pw P' nv D' v)) :
    Calls Try.prog f args W fun e w' => e = .returned v ∧ Solo w0 pw nv P' D' w' := by
  obtain ⟨O, h1, h2⟩ := h.st
  have hb : Below w0.heap.size w0 W := ⟨hW.os.trans h.bel.os, hW.tape.trans h.bel.tape, hW.output.trans h.bel.output, Nat.le_trans h.bel.size hW.size, fun b hb => (hW.block b (Nat.lt_of_lt_of_le hb h.bel.size) (Nat.lt_of_lt_of_le hb h.bel.size)).trans (h.bel.block b hb)⟩
  exact (hc O h1 (h1.more hW) h2).mono fun e w' ⟨O', he, s1, s2⟩ => ⟨he, ⟨⟨O', s1, fun b hb' => (s2.2 b (Nat.lt_of_lt_of_le hb' hb.size)).trans (h2 b hb')⟩, below_ext hb s2 h2⟩⟩
theorem Solo.lit2 (h : Solo w0 pw nv (Pk n) D w) (a : Nat) (x y : UInt8) (hf : a + 2 ≤ D.mem.length) (hp : D.pending ≤ 1000000) (hn : n ≤ 1000000) :
    Calls Try.prog 12 #[.pointer (some ⟨nv, 0, none⟩), .int .i64 (a : Int), .slice (some ⟨w.heap.size + 1, 0, none⟩) 1 1] ((w.alloc (.cells #[.int .u8 (x.toNat : Int), .int .u8 (y.toNat : Int)] 5 (2, 3))).alloc (.cells #[.slice (some ⟨w.heap.size, 0, none⟩) 2 2] 35)) fun e w' => e = .returned (.int .i64 0) ∧ Solo w0 pw nv (Pk (n + 1)) (D.putAll a [[x, y]]) w' := by
  refine h.stepAt (((Kept.refl _ w).alloc _).alloc _) fun O s1 s2 _ => ?_
  have hOw : (w.alloc (.cells #[.int .u8 (x.toNat : Int), .int .u8 (y.toNat : Int)] 5 (2, 3))).heap.size = w.heap.size + 1 := by simp
  have hfit : fitB D.mem.length (a : Int) [[x, y]] = true := by
    have e : total [[x, y]] = 2 := rfl
    unfold fitB
    rw [e]
    exact decide_eq_true ⟨by omega, by omega⟩
  obtain ⟨e1, e2, e3⟩ := wr_ok n D (a : Int) [[x, y]] hfit
  have s3 := s1.alloc (.cells #[.int .u8 (x.toNat : Int), .int .u8 (y.toNat : Int)] 5 (2, 3))
  have hr : RB (w.alloc (.cells #[.int .u8 (x.toNat : Int), .int .u8 (y.toNat : Int)] 5 (2, 3))) (w.alloc (.cells #[.int .u8 (x.toNat : Int), .int .u8 (y.toNat : Int)] 5 (2, 3))).heap.size (some ⟨w.heap.size, 0, none⟩) [x, y] := rb_lit2 w x y
  have hp1 := PartsOk.one (t := 35) (c := 2) s3 hr (fun _ ad e => by cases e; exact s1.free (Nat.le_refl _))
  rw [hOw] at hp1
  have := nwrite_any pw nv (Pk n) D O (a : Int) (w.heap.size + 1) 1 [[x, y]] _ s2 hp1 (by simp) (by have : total [[x, y]] = 2 := rfl; omega) (by show n ≤ _; omega) (Nat.zero_le _) (by have := s1.ok.high; omega)
  rw [e1, e2, e3] at this
  exact this
end

section
set_option maxRecDepth 20000
set_option maxHeartbeats 2000000
theorem begin_solo (w : World) : Calls Try.prog 7 #[] w fun e w' => e = .returned (.pointer (some ⟨w.heap.size, 0, none⟩)) ∧ PowNew w' w.heap.size ∧ Below w.heap.size w w' := newPower_any w
theorem begin_nv (w w1 : World) (n : Nat) (hp : PowNew w1 w.heap.size) (hb : Below w.heap.size w w1) (h1 : 64 ≤ n) (h2 : n ≤ 67108864) :
    Calls Try.prog 8 #[.pointer (some ⟨w.heap.size, 0, none⟩), .int .i64 (n : Int)] w1 fun e w' => ∃ nv, e = .returned (.tuple #[.pointer (some ⟨nv, 0, none⟩), .int .i64 0]) ∧ Solo w w.heap.size nv (Pk 0) (Dev.new n) w' :=
  (new_ok w.heap.size n w1 hp h1 h2).mono fun e w' ⟨O, nv, he, s1, s2, s3⟩ => ⟨nv, he, ⟨⟨O, s1, fun b hb' => s2 b (Nat.lt_of_lt_of_le hb' hb.size) (by omega)⟩,
    ⟨s3.os.trans hb.os, s3.tape.trans hb.tape, s3.output.trans hb.output, Nat.le_trans hb.size s3.size, fun b hb' => (s3.block b (Nat.lt_of_lt_of_le hb' hb.size) (by omega)).trans (hb.block b hb')⟩⟩⟩
def K1 : Dev := (Dev.new 64).putAll 0 [[97, 98]]
def K3 : Dev := K1.settle.putAll 1 [[120, 121]]
def K4 : Dev := K3.cut [1]
theorem k_facts : (Dev.new 64).mem.length = 64 ∧ K1.mem.length = 64 ∧ K1.pending = 2 ∧ K3.mem.length = 64 ∧ K3.pending = 2 ∧ K4.mem.length = 64 ∧ readCode (Pk 3) K4.mem.length 0 3 = 0 ∧ readBytes (Pk 3) K4.mem 0 3 = [97, 120, 0] := by
  refine ⟨by simp [Dev.new], by decide, by decide, by decide, by decide, by decide, by decide, by decide⟩
theorem known_any (w : World) : Calls Try.prog 5 #[] w fun e w' => e = .returned (.bool true) ∧ Below w.heap.size w w' := by
  have Hb := Lib.hid (begin_solo w)
  obtain ⟨f0, f1, f1p, f3, f3p, f4, f5, f6⟩ := k_facts
  have HF1 : Hid (0 + 2 ≤ (Dev.new 64).mem.length ∧ (Dev.new 64).pending ≤ 1000000 ∧ 1 + 2 ≤ K1.settle.mem.length ∧ K1.settle.pending ≤ 1000000 ∧ K1.pending ≤ 1099511627776 ∧ K3.pending ≤ 1099511627776) := ⟨by omega, by show 0 ≤ _; omega, by show 1 + 2 ≤ K1.mem.length; omega, by show 0 ≤ _; omega, by omega, by omega⟩
  have HF5 := Lib.hid (And.intro f5 f6)
  have HF3 := Lib.hid f3p
  have HF4 := Lib.hid f4
  clear f0 f1 f1p f3 f3p f4 f5 f6
  have kc := fun (w : World) (C : Array Value) (n c : Nat) => Lib.run_convert_bytes_const (P := Try.prog) w 35 5 C n c Try.underlying35 Try.underlying5
  go_enter Try.func5, Try.ntmps5
  go_wp2_with fail
  refine Hb.out.mono ?_
  rintro e w1 ⟨rfl, hp1, hb1⟩
  have Hn : Hid (Calls Try.prog 8 #[.pointer (some ⟨w.heap.size, 0, none⟩), .int .i64 64] w1 fun e w' => ∃ nv, e = .returned (.tuple #[.pointer (some ⟨nv, 0, none⟩), .int .i64 0]) ∧ Solo w w.heap.size nv (Pk 0) (Dev.new 64) w') := begin_nv w w1 64 hp1 hb1 (by decide) (by decide)
  clear hp1 hb1
  go_wp2_with fail
  refine Hn.out.mono ?_
  rintro e w2 ⟨nv, rfl, hs2⟩
  have Hs2 := Lib.hid hs2
  clear hs2 Hn
  go_wp2_with fail
  have H3 : Hid (Calls Try.prog 12 #[.pointer (some ⟨nv, 0, none⟩), .int .i64 0, .slice (some ⟨w2.heap.size + 1, 0, none⟩) 1 1] ((w2.alloc (.cells #[.int .u8 97, .int .u8 98] 5 (2, 3))).alloc (.cells #[.slice (some ⟨w2.heap.size, 0, none⟩) 2 2] 35)) fun e w' => e = .returned (.int .i64 0) ∧ Solo w w.heap.size nv (Pk 1) K1 w') :=
    Hs2.out.lit2 0 97 98 HF1.out.1 HF1.out.2.1 (by omega)
  refine H3.out.mono ?_
  rintro e w3 ⟨rfl, hs3⟩
  have Hs3 := Lib.hid hs3
  clear hs3 H3 Hs2
  go_wp2_with fail
  have H4 : Hid (Calls Try.prog 14 #[.pointer (some ⟨nv, 0, none⟩)] w3 fun e w' => e = .returned (.int .i64 0) ∧ Solo w w.heap.size nv (Pk 2) K1.settle w') :=
    Hs3.out.step fun O s1 _ => persist_any _ _ _ _ O _ s1 HF1.out.2.2.2.2.1 (by decide) (by decide)
  refine H4.out.mono ?_
  rintro e w4 ⟨rfl, hs4⟩
  have Hs4 := Lib.hid hs4
  clear hs4 H4 Hs3
  go_wp2_with fail
  have H5 : Hid (Calls Try.prog 12 #[.pointer (some ⟨nv, 0, none⟩), .int .i64 1, .slice (some ⟨w4.heap.size + 1, 0, none⟩) 1 1] ((w4.alloc (.cells #[.int .u8 120, .int .u8 121] 5 (2, 3))).alloc (.cells #[.slice (some ⟨w4.heap.size, 0, none⟩) 2 2] 35)) fun e w' => e = .returned (.int .i64 0) ∧ Solo w w.heap.size nv (Pk 3) K3 w') :=
    Hs4.out.lit2 1 120 121 HF1.out.2.2.1 HF1.out.2.2.2.1 (by omega)
  refine H5.out.mono ?_
  rintro e w5 ⟨rfl, hs5⟩
  have Hs5 := Lib.hid hs5
  clear hs5 H5 Hs4
  go_wp2_with fail
  have H6 : Hid (Calls Try.prog 20 #[.pointer (some ⟨nv, 0, none⟩)] w5 fun e w' => e = .returned (.int .i64 2) ∧ w5 = w') := by
    obtain ⟨O, s1, _⟩ := Hs5.out.st
    have := sysPending s1
    rw [HF3.out] at this
    exact this
  refine H6.out.mono ?_
  rintro e w' ⟨rfl, rfl⟩
  clear H6
  go_wp2_with fail
  have H7 : Hid (Calls Try.prog 16 #[.pointer (some ⟨nv, 0, none⟩), .slice (some ⟨w5.heap.size, 0, none⟩) 1 1] (w5.alloc (.cells #[.int .i64 1] 3)) fun e w' => e = .returned (.tuple #[]) ∧ Solo w w.heap.size nv (Pk 3) K4 w') :=
    Hs5.out.stepAt ((Kept.refl _ w5).alloc _) fun O s1 s2 _ => cut_any _ _ _ _ O (some ⟨w5.heap.size, 0, none⟩) 1 [1] _ s2 (fun k x hx => by
      match k, hx with
      | 0, hx => cases hx; exact ⟨_, rfl, by simp, (Cells.new w5 #[.int .i64 1] 3).cell (i := 0) rfl⟩) (fun _ ad e q => by cases e; rw [s1.free (Nat.le_refl _)] at q; cases q) HF1.out.2.2.2.2.2 (by decide)
  refine H7.out.mono ?_
  rintro e w7 ⟨rfl, hs7⟩
  have Hs7 := Lib.hid hs7
  clear hs7 H7 Hs5
  go_wp2_with fail
  have H8 : Hid (Calls Try.prog 21 #[.pointer (some ⟨nv, 0, none⟩), .int .i64 0, .int .i64 3] w7 fun e w' => ∃ A c, e = .returned (.tuple #[.slice A 3 c, .int .i64 0]) ∧ (convert 35 9 (.slice A 3 c)).run Try.prog w' = .ok (.string ⟨#[97, 120, 0]⟩) w' ∧ Solo w w.heap.size nv (Pk 3) K4 w') := by
    obtain ⟨O, s1, s0⟩ := Hs7.out.st
    refine (read_any _ nv (Pk 3) K4 O 0 3 w7 s1 (by decide)).mono fun e w' ⟨v, he, ho, hb⟩ => ?_
    rw [HF5.out.2] at ho
    rw [HF5.out.1] at he
    obtain ⟨A, c, rfl, _, hr, _⟩ := Own.rb ho
    have hk : Kept (fun b => b < w7.heap.size) w7 w' := ⟨hb.os, hb.tape, hb.output, hb.size, fun b q _ => hb.block b q⟩
    exact ⟨A, c, he, text_run w' _ A [97, 120, 0] c hr, ⟨⟨O, s1.more hk, s0⟩, Hs7.out.bel.trans (hb.mono Hs7.out.bel.size)⟩⟩
  refine H8.out.mono ?_
  rintro e w8 ⟨A, c, rfl, hcv, hs8⟩
  have Hs8 := Lib.hid hs8
  clear hs8 H8 Hs7
  have H9 : Hid (Calls Try.prog 23 #[.pointer (some ⟨nv, 0, none⟩)] w8 fun e w' => e = .returned (.int .i64 64) ∧ w8 = w') := by
    obtain ⟨O, s1, _⟩ := Hs8.out.st
    have := sysSize s1
    rw [HF4.out] at this
    exact this
  go_wp2_with (go_at_call 23; refine H9.out.mono ?_; rintro e w' ⟨rfl, rfl⟩)
  go_ret
  exact ⟨rfl, Hs8.out.bel⟩
end
end Go.Proofs.Ytoeeppecinjiiaa

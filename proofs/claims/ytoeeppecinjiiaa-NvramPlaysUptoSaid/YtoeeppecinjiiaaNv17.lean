/-
  The program's device and the law's, side by side.
-/
import Derived.Test.YtoeeppecinjiiaaNv16
import Derived.Deep.RegionHeld3
namespace Go.Proofs.Ytoeeppecinjiiaa
open Go.RowKit

def Apart (O1 O2 : Nat → Option Tag) : Prop := ∀ b, O1 b ≠ none → O2 b = none
theorem Apart.symm {O1 O2 : Nat → Option Tag} (h : Apart O1 O2) : Apart O2 O1 := fun b hb => by
  rcases hO : O1 b with _ | t
  · rfl
  · exact absurd (h b (by rw [hO]; simp)) hb
theorem Ext.other {w w' : World} {O O' Q : Nat → Option Tag} (h : Ext w O w' O') (ha : Apart O Q) (hq : ∀ b, Q b ≠ none → b < w.heap.size) : Kept (fun b => Q b ≠ none) w w' ∧ Apart O' Q := by
  refine ⟨h.1.mono fun b _ hb => ha.symm b hb, fun b hb => ?_⟩
  by_cases hlt : b < w.heap.size
  · rw [h.2 b hlt] at hb
    exact ha b hb
  · rcases hO : Q b with _ | t
    · rfl
    · exact absurd (hq b (by rw [hO]; simp)) hlt
/-- what lay in w0 is as it was; both devices stand, and tell the same -/
structure Rig (w0 : World) (pw nv rd : Nat) (P : Pow) (D : Dev) (R : Ref) (w : World) : Prop where
  st : ∃ O Q, SysAt w O pw P nv D ∧ RefAt w Q rd R ∧ Apart O Q ∧ ∀ b, b < w0.heap.size → O b = none ∧ Q b = none
  bel : Below w0.heap.size w0 w
section
variable {w0 w w' W : World} {pw nv rd n : Nat} {P P' : Pow} {D D' : Dev} {R R' : Ref} {v : Value} {f : FuncId} {args : Array Value} {b i : Nat}
theorem Rig.cell (h : Rig w0 pw nv rd P D R w) (hb : b < w0.heap.size) (hc : w0.cell? ⟨b, i, none⟩ = some v) : w.cell? ⟨b, i, none⟩ = some v := (h.bel.cell (p := ⟨b, i, none⟩) hb).trans hc
theorem Rig.bytes {A : Option Addr} {l : List UInt8} (h : Rig w0 pw nv rd P D R w) (hr : RB w0 w0.heap.size A l) : RB w w.heap.size A l := (hr.below h.bel).wide h.bel.size
theorem Rig.nums {A : Option Addr} {l : List Int} (h : Rig w0 pw nv rd P D R w) (hr : RI w0 w0.heap.size A l) : RI w w.heap.size A l := fun k x hx => by
  obtain ⟨ad, e, hlt, hc⟩ := hr k x hx
  exact ⟨ad, e, Nat.lt_of_lt_of_le hlt h.bel.size, (h.bel.cell (p := ad.add k) (by rw [add_block]; exact hlt)).trans hc⟩
theorem below_kept (h : Below w0.heap.size w0 w) (hW : Kept (fun b => b < w.heap.size) w W) : Below w0.heap.size w0 W :=
  ⟨hW.os.trans h.os, hW.tape.trans h.tape, hW.output.trans h.output, Nat.le_trans h.size hW.size, fun b hb => (hW.block b (Nat.lt_of_lt_of_le hb h.size) (Nat.lt_of_lt_of_le hb h.size)).trans (h.block b hb)⟩
theorem Rig.other (h : Rig w0 pw nv rd P D R w) (hk : Kept (fun b => b < w.heap.size) w W) : Rig w0 pw nv rd P D R W := by
  obtain ⟨O, Q, h1, h2, h3, h4⟩ := h.st
  exact ⟨⟨O, Q, h1.more hk, h2.kept_ (hk.mono fun b hb _ => hb), h3, h4⟩, below_kept h.bel hk⟩
theorem Rig.drewN (h : Rig w0 pw nv rd P D R w) (q : Nat) : Rig w0 pw nv rd P D R (w.drewN q) := h.other ((Kept.refl _ w).drewN q)
theorem Rig.below (h : Rig w0 pw nv rd P D R w) (hb : Below w.heap.size w W) : Rig w0 pw nv rd P D R W := h.other ⟨hb.os, hb.tape, hb.output, hb.size, fun b q _ => hb.block b q⟩
/-- the program's step, at a world that holds more blocks of the caller's -/
theorem Rig.prog (h : Rig w0 pw nv rd P D R w) (hW : Kept (fun b => b < w.heap.size) w W) (hc : ∀ O, SysAt w O pw P nv D → SysAt W O pw P nv D → (∀ b, b < w0.heap.size → O b = none) → Calls Try.prog f args W (SysPost W O pw P' nv D' v)) :
    Calls Try.prog f args W fun e w' => e = .returned v ∧ Rig w0 pw nv rd P' D' R w' := by
  obtain ⟨O, Q, h1, h2, h3, h4⟩ := h.st
  have h1' := h1.more hW
  have h2' := h2.kept_ (hW.mono fun b hb _ => hb)
  have hb := below_kept h.bel hW
  refine (hc O h1 h1' (fun b hb => (h4 b hb).1)).mono fun e w' ⟨O', he, s1, s2⟩ => ⟨he, ?_⟩
  obtain ⟨q1, q2⟩ := s2.other h3 h2'.fresh
  exact ⟨⟨O', Q, s1, h2'.kept_ q1, q2, fun b hb' => ⟨(s2.2 b (Nat.lt_of_lt_of_le hb' hb.size)).trans (h4 b hb').1, (h4 b hb').2⟩⟩, below_ext hb s2 fun b hb => (h4 b hb).1⟩
/-- the law's step -/
theorem Rig.ref (h : Rig w0 pw nv rd P D R w) (hW : Kept (fun b => b < w.heap.size) w W) (hc : ∀ Q, RefAt w Q rd R → RefAt W Q rd R → (∀ b, b < w0.heap.size → Q b = none) → Calls Try.prog f args W (RefPost W Q rd R' v)) :
    Calls Try.prog f args W fun e w' => e = .returned v ∧ Rig w0 pw nv rd P D R' w' := by
  obtain ⟨O, Q, h1, h2, h3, h4⟩ := h.st
  have h1' := h1.more hW
  have h2' := h2.kept_ (hW.mono fun b hb _ => hb)
  have hb := below_kept h.bel hW
  refine (hc Q h2 h2' (fun b hb => (h4 b hb).2)).mono fun e w' ⟨Q', he, s1, s2⟩ => ⟨he, ?_⟩
  obtain ⟨q1, q2⟩ := s2.other h3.symm h1'.fresh
  exact ⟨⟨O, Q', h1'.kept q1, s1, q2.symm, fun b hb' => ⟨(h4 b hb').1, (s2.2 b (Nat.lt_of_lt_of_le hb' hb.size)).trans (h4 b hb').2⟩⟩, below_ext hb s2 fun b hb => (h4 b hb).2⟩
/-- the law's device is made beside the program's -/
theorem rig_new (h : Solo w0 pw nv (Pk 0) (Dev.new n) w) (h1 : 64 ≤ n) (h2 : n ≤ 67108864) :
    Calls Try.prog 9 #[.int .i64 (n : Int)] w fun e w' => ∃ rd, e = .returned (.tuple #[.pointer (some ⟨rd, 0, none⟩), .int .i64 0]) ∧ Rig w0 pw nv rd (Pk 0) (Dev.new n) (Ref.new n) w' := by
  obtain ⟨O, s1, s2⟩ := h.st
  refine (rnew_ok n w h1 h2).mono fun e w' ⟨Q, rd, he, q1, q2⟩ => ⟨rd, he, ⟨⟨O, Q, s1.kept (q2.1.mono fun _ _ _ => rfl), q1, fun b hb => q2.2 b (s1.fresh b hb), fun b hb => ⟨s2 b hb, q2.2 b (Nat.lt_of_lt_of_le hb h.bel.size)⟩⟩, below_ext h.bel q2 fun _ _ => rfl⟩⟩
/-- an act's bytes, whole, are written by the program -/
theorem Rig.write1 {A : Option Addr} {bs : List UInt8} {c : Nat} (h : Rig w0 pw nv rd (Pk n) D R w) (a : Nat) (hr : RB w0 w0.heap.size A bs) (hf : a + bs.length ≤ D.mem.length) (hp : D.pending + bs.length ≤ 1099511627776) (hn : n ≤ 1099511627776) :
    Calls Try.prog 12 #[.pointer (some ⟨nv, 0, none⟩), .int .i64 (a : Int), .slice (some ⟨w.heap.size, 0, none⟩) 1 1] (w.alloc (.cells #[.slice A bs.length c] 35)) fun e w' => e = .returned (.int .i64 0) ∧ Rig w0 pw nv rd (Pk (n + 1)) (D.putAll a [bs]) R w' := by
  refine h.prog ((Kept.refl _ w).alloc _) fun O s1 s2 s3 => ?_
  have e0 : total [bs] = bs.length := by simp [total]
  have hfit : fitB D.mem.length (a : Int) [bs] = true := by
    unfold fitB
    rw [e0]
    exact decide_eq_true ⟨by omega, by omega⟩
  obtain ⟨e1, e2, e3⟩ := wr_ok n D (a : Int) [bs] hfit
  have hp1 := PartsOk.one (t := 35) (c := c) s1 (h.bytes hr) (fun hne ad e => s3 _ (by
    rcases bs with _ | ⟨x, t⟩
    · exact absurd rfl hne
    · obtain ⟨ad', e', hlt, _⟩ := hr 0 x rfl
      rw [e] at e'
      cases e'
      exact hlt))
  have := nwrite_any pw nv (Pk n) D O (a : Int) w.heap.size 1 [bs] _ s2 hp1 (by simp) (by omega) hn (Nat.zero_le _) (by have := s1.ok.high; omega)
  rw [e1, e2, e3] at this
  exact this
theorem Rig.rwrite {A : Option Addr} {bs : List UInt8} {c : Nat} (h : Rig w0 pw nv rd P D R w) (a : Nat) (hr : RB w0 w0.heap.size A bs) (hf : a + bs.length ≤ R.kept.length) (hl : R.l.length + bs.length ≤ 1099511627776) :
    Calls Try.prog 13 #[.pointer (some ⟨rd, 0, none⟩), .int .i64 (a : Int), .slice A bs.length c] w fun e w' => e = .returned (.tuple #[]) ∧ Rig w0 pw nv rd P D (R.write a bs) w' :=
  h.ref (Kept.refl _ w) fun Q s1 _ s3 => rwrite_any rd a R Q A c bs w s1 (h.bytes hr) (fun hne ad e => s3 _ (by
    rcases bs with _ | ⟨x, t⟩
    · exact absurd rfl hne
    · obtain ⟨ad', e', hlt, _⟩ := hr 0 x rfl
      rw [e] at e'
      cases e'
      exact hlt)) hf hl
theorem Rig.fits (h : Rig w0 pw nv rd P D R w) (at_ m : Int) : Calls Try.prog 10 #[.pointer (some ⟨rd, 0, none⟩), .int .i64 at_, .int .i64 m] w fun e w' => e = .returned (.bool (hasB R.kept.length at_ m)) ∧ w = w' := by
  obtain ⟨O, Q, h1, h2, h3, h4⟩ := h.st
  exact fits_any rd R Q at_ m w h2
theorem Rig.persist (h : Rig w0 pw nv rd (Pk n) D R w) (hp : D.pending ≤ 1099511627776) (hn : n ≤ 1099511627776) :
    Calls Try.prog 14 #[.pointer (some ⟨nv, 0, none⟩)] w fun e w' => e = .returned (.int .i64 0) ∧ Rig w0 pw nv rd (Pk (n + 1)) D.settle R w' :=
  h.prog (Kept.refl _ w) fun O s1 _ _ => persist_any pw nv (Pk n) D O w s1 hp hn (Nat.zero_le _)
theorem Rig.rpersist (h : Rig w0 pw nv rd P D R w) (hl : R.l.length ≤ 1099511627776) :
    Calls Try.prog 15 #[.pointer (some ⟨rd, 0, none⟩)] w fun e w' => e = .returned (.tuple #[]) ∧ Rig w0 pw nv rd P D R.persist w' :=
  h.ref (Kept.refl _ w) fun Q s1 _ _ => rpersist_any rd R Q w s1 hl
theorem Rig.pending (h : Rig w0 pw nv rd P D R w) : Calls Try.prog 20 #[.pointer (some ⟨nv, 0, none⟩)] w fun e w' => e = .returned (.int .i64 (D.pending : Int)) ∧ w = w' := by
  obtain ⟨O, Q, h1, h2, h3, h4⟩ := h.st
  exact sysPending h1
theorem Rig.cut1 (h : Rig w0 pw nv rd P D R w) (x : Int) (hp : D.pending ≤ 1099511627776) :
    Calls Try.prog 16 #[.pointer (some ⟨nv, 0, none⟩), .slice (some ⟨w.heap.size, 0, none⟩) 1 1] (w.alloc (.cells #[.int .i64 x] 3)) fun e w' => e = .returned (.tuple #[]) ∧ Rig w0 pw nv rd P (D.cut [x]) R w' :=
  h.prog ((Kept.refl _ w).alloc _) fun O s1 s2 _ => cut_any _ _ _ _ O (some ⟨w.heap.size, 0, none⟩) 1 [x] _ s2 (fun k y hx => by
    match k, hx with
    | 0, hx => cases hx; exact ⟨_, rfl, by simp, (Cells.new w #[.int .i64 x] 3).cell (i := 0) rfl⟩) (fun _ ad e q => by cases e; rw [s1.free (Nat.le_refl _)] at q; cases q) hp (by simp)
theorem Rig.read (h : Rig w0 pw nv rd (Pk n) D R w) (m : Nat) (hm : D.mem.length = m) (hm2 : m ≤ 67108864) :
    Calls Try.prog 21 #[.pointer (some ⟨nv, 0, none⟩), .int .i64 0, .int .i64 (m : Int)] w fun e w' => ∃ A c, e = .returned (.tuple #[.slice A m c, .int .i64 0]) ∧ RB w' w'.heap.size A D.mem ∧ Rig w0 pw nv rd (Pk n) D R w' := by
  obtain ⟨O, Q, h1, h2, h3, h4⟩ := h.st
  have e1 : readCode (Pk n) D.mem.length 0 (m : Int) = 0 := by
    have : hasB D.mem.length 0 (m : Int) = true := decide_eq_true ⟨by omega, by omega, by omega⟩
    unfold readCode
    rw [this]; rfl
  have e2 : readBytes (Pk n) D.mem 0 (m : Int) = D.mem := by
    unfold readBytes
    rw [if_pos e1]
    show (D.mem.drop 0).take m = _
    rw [List.drop_zero, List.take_of_length_le (by omega)]
  refine (read_any pw nv (Pk n) D O 0 (m : Int) w h1 (by omega)).mono fun e w' ⟨v, he, ho, hb⟩ => ?_
  rw [e2] at ho
  rw [e1] at he
  obtain ⟨A, c, rfl, _, hr, _⟩ := Own.rb ho
  rw [hm] at he
  exact ⟨A, c, he, hr, h.below hb⟩
end
end Go.Proofs.Ytoeeppecinjiiaa

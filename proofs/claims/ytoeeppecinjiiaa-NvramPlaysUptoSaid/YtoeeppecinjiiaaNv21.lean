/-
  NvramPlays: the act's box beside both devices; what holds between the parts of a round.
-/
import Derived.Test.YtoeeppecinjiiaaNv20
namespace Go.Proofs.Ytoeeppecinjiiaa
open Go.RowKit

/-- b[:h] and b[h:] -/
theorem slice_front (A : Option Addr) (L c h : Nat) (hc : h ≤ c) (W : World) :
    (Instr.slice 35 (.slice A L c) none (some (.int .i64 (h : Int))) none).run Try.prog W = .ok (.slice A h c) W := by
  have he : Try.prog.elem 35 = 5 := by simp [Program.elem, Try.underlying35]
  have hz : ∀ w, (Go.sizeOf 5).run Try.prog w = .ok 1 w := fun w => by kernel_rfl
  rw [run_slice_h W 35 _ _ _ (by rw [he]; exact Try.underlying35) .i64 _ (by omega) (by omega), he, hz]
  rcases A with _ | a
  · simp [Result.andThen, sliced]
  · simp [Result.andThen, sliced, Addr.add]
theorem slice_back (A : Option Addr) (L c h : Nat) (hc : h ≤ L) (W : World) :
    (Instr.slice 35 (.slice A L c) (some (.int .i64 (h : Int))) none none).run Try.prog W = .ok (.slice (cutAt A c h) (L - h) (c - h)) W := by
  have he : Try.prog.elem 35 = 5 := by simp [Program.elem, Try.underlying35]
  have hz : ∀ w, (Go.sizeOf 5).run Try.prog w = .ok 1 w := fun w => by kernel_rfl
  rw [run_slice_l W 35 _ _ _ (by rw [he]; exact Try.underlying35) .i64 _ (by omega) (by omega), he, hz]
  simp [Result.andThen, sliced, cutAt]
/-- both devices, and a box of the caller's own that is as it was in Wb -/
structure RigX (w0 Wb : World) (bx pw nv rd : Nat) (P : Pow) (D : Dev) (R : Ref) (w : World) : Prop where
  st : ∃ O Q, SysAt w O pw P nv D ∧ RefAt w Q rd R ∧ Apart O Q ∧ (∀ b, b < w0.heap.size → O b = none ∧ Q b = none) ∧ O bx = none ∧ Q bx = none
  bel : Below w0.heap.size w0 w
  box : w.heap[bx]? = Wb.heap[bx]?
  lt : bx < w.heap.size
section
variable {w0 w W Wb : World} {bx pw nv rd n : Nat} {P P' : Pow} {D D' : Dev} {R R' : Ref} {v : Value} {f : FuncId} {args : Array Value} {b i : Nat}
theorem Rig.boxed (h : Rig w0 pw nv rd P D R w) (ob : Obj) : RigX w0 (w.alloc ob) w.heap.size pw nv rd P D R (w.alloc ob) := by
  have hk : Kept (fun b => b < w.heap.size) w (w.alloc ob) := (Kept.refl _ w).alloc _
  have h2 := h.other hk
  obtain ⟨O, Q, h1, h2, h3, h4⟩ := h.st
  exact ⟨⟨O, Q, h1.more hk, h2.kept_ (hk.mono fun b hb _ => hb), h3, h4, h1.free (Nat.le_refl _), by
    rcases hq : Q w.heap.size with _ | t
    · rfl
    · exact absurd (h2.fresh _ (by rw [hq]; simp)) (by omega)⟩, below_kept h.bel hk, rfl, by simp⟩
theorem RigX.rig (h : RigX w0 Wb bx pw nv rd P D R w) : Rig w0 pw nv rd P D R w := by
  obtain ⟨O, Q, h1, h2, h3, h4, _⟩ := h.st
  exact ⟨⟨O, Q, h1, h2, h3, h4⟩, h.bel⟩
theorem RigX.cellx (h : RigX w0 Wb bx pw nv rd P D R w) (hc : Wb.cell? ⟨bx, i, none⟩ = some v) : w.cell? ⟨bx, i, none⟩ = some v := (World.cell?_of_block (w := Wb) (a := ⟨bx, i, none⟩) h.box).trans hc
theorem RigX.bytes {A : Option Addr} {l : List UInt8} (h : RigX w0 Wb bx pw nv rd P D R w) (hr : RB w0 w0.heap.size A l) : RB w w.heap.size A l := h.rig.bytes hr
theorem RigX.nums {A : Option Addr} {l : List Int} (h : RigX w0 Wb bx pw nv rd P D R w) (hr : RI w0 w0.heap.size A l) : RI w w.heap.size A l := h.rig.nums hr
theorem RigX.other (h : RigX w0 Wb bx pw nv rd P D R w) (hk : Kept (fun b => b < w.heap.size) w W) : RigX w0 Wb bx pw nv rd P D R W := by
  obtain ⟨O, Q, h1, h2, h3, h4⟩ := h.st
  exact ⟨⟨O, Q, h1.more hk, h2.kept_ (hk.mono fun b hb _ => hb), h3, h4⟩, below_kept h.bel hk, (hk.block _ h.lt h.lt).trans h.box, Nat.lt_of_lt_of_le h.lt hk.size⟩
theorem RigX.drewN (h : RigX w0 Wb bx pw nv rd P D R w) (q : Nat) : RigX w0 Wb bx pw nv rd P D R (w.drewN q) := h.other ((Kept.refl _ w).drewN q)
theorem RigX.below (h : RigX w0 Wb bx pw nv rd P D R w) (hb : Below w.heap.size w W) : RigX w0 Wb bx pw nv rd P D R W := h.other ⟨hb.os, hb.tape, hb.output, hb.size, fun b q _ => hb.block b q⟩
theorem RigX.prog (h : RigX w0 Wb bx pw nv rd P D R w) (hW : Kept (fun b => b < w.heap.size) w W) (hc : ∀ O, SysAt w O pw P nv D → SysAt W O pw P nv D → (∀ b, b < w0.heap.size → O b = none) → Calls Try.prog f args W (SysPost W O pw P' nv D' v)) :
    Calls Try.prog f args W fun e w' => e = .returned v ∧ RigX w0 Wb bx pw nv rd P' D' R w' := by
  obtain ⟨O, Q, h1, h2, h3, h4, h5, h6⟩ := h.st
  have h1' := h1.more hW
  have h2' := h2.kept_ (hW.mono fun b hb _ => hb)
  have hb := below_kept h.bel hW
  have hlt : bx < W.heap.size := Nat.lt_of_lt_of_le h.lt hW.size
  refine (hc O h1 h1' (fun b hb => (h4 b hb).1)).mono fun e w' ⟨O', he, s1, s2⟩ => ⟨he, ?_⟩
  obtain ⟨q1, q2⟩ := s2.other h3 h2'.fresh
  exact ⟨⟨O', Q, s1, h2'.kept_ q1, q2, fun b hb' => ⟨(s2.2 b (Nat.lt_of_lt_of_le hb' hb.size)).trans (h4 b hb').1, (h4 b hb').2⟩, (s2.2 bx hlt).trans h5, h6⟩, below_ext hb s2 fun b hb => (h4 b hb).1,
    (s2.1.block bx hlt h5).trans ((hW.block bx h.lt h.lt).trans h.box), Nat.lt_of_lt_of_le hlt s2.1.size⟩
theorem RigX.ref (h : RigX w0 Wb bx pw nv rd P D R w) (hW : Kept (fun b => b < w.heap.size) w W) (hc : ∀ Q, RefAt w Q rd R → RefAt W Q rd R → (∀ b, b < w0.heap.size → Q b = none) → Calls Try.prog f args W (RefPost W Q rd R' v)) :
    Calls Try.prog f args W fun e w' => e = .returned v ∧ RigX w0 Wb bx pw nv rd P D R' w' := by
  obtain ⟨O, Q, h1, h2, h3, h4, h5, h6⟩ := h.st
  have h1' := h1.more hW
  have h2' := h2.kept_ (hW.mono fun b hb _ => hb)
  have hb := below_kept h.bel hW
  have hlt : bx < W.heap.size := Nat.lt_of_lt_of_le h.lt hW.size
  refine (hc Q h2 h2' (fun b hb => (h4 b hb).2)).mono fun e w' ⟨Q', he, s1, s2⟩ => ⟨he, ?_⟩
  obtain ⟨q1, q2⟩ := s2.other h3.symm h1'.fresh
  exact ⟨⟨O, Q', h1'.kept q1, s1, q2.symm, fun b hb' => ⟨(h4 b hb').1, (s2.2 b (Nat.lt_of_lt_of_le hb' hb.size)).trans (h4 b hb').2⟩, h5, (s2.2 bx hlt).trans h6⟩, below_ext hb s2 fun b hb => (h4 b hb).2,
    (s2.1.block bx hlt h6).trans ((hW.block bx h.lt h.lt).trans h.box), Nat.lt_of_lt_of_le hlt s2.1.size⟩
/-- a Write of two parts -/
theorem RigX.write2 {A B : Option Addr} {l m : List UInt8} {c e : Nat} (h : RigX w0 Wb bx pw nv rd P D R w) (at_ : Int) (hr : RB w0 w0.heap.size A l) (hs : RB w0 w0.heap.size B m) (hp : D.pending + l.length + m.length ≤ 1099511627776) (hw : P.writes ≤ 1099511627776) (hl : P.left ≤ 9223372036854775807) (ha : at_ ≤ 9223372036854775807) :
    Calls Try.prog 12 #[.pointer (some ⟨nv, 0, none⟩), .int .i64 at_, .slice (some ⟨w.heap.size, 0, none⟩) 2 2] (w.alloc (.cells #[.slice A l.length c, .slice B m.length e] 35)) fun ev w' => ev = .returned (.int .i64 (wrCode P D.mem.length at_ [l, m] : Nat)) ∧ RigX w0 Wb bx pw nv rd (wrP P D.mem.length at_ [l, m]) (wrD P D at_ [l, m]) R w' := by
  refine h.prog ((Kept.refl _ w).alloc _) fun O s1 s2 s3 => ?_
  have hp1 := PartsOk.two (t := 35) (c := c) (e := e) s1 (h.bytes hr) (low_free hr s3) (h.bytes hs) (low_free hs s3)
  exact nwrite_any pw nv P D O at_ w.heap.size 2 [l, m] _ s2 hp1 (by simp) (by simp [total]; omega) hw hl ha
theorem RigX.persistAny (h : RigX w0 Wb bx pw nv rd P D R w) (hp : D.pending ≤ 1099511627776) (hw : P.writes ≤ 1099511627776) (hl : P.left ≤ 9223372036854775807) :
    Calls Try.prog 14 #[.pointer (some ⟨nv, 0, none⟩)] w fun e w' => e = .returned (.int .i64 (perCode P : Nat)) ∧ RigX w0 Wb bx pw nv rd (perP P) (perD P D) R w' :=
  h.prog (Kept.refl _ w) fun O s1 _ _ => persist_any pw nv P D O w s1 hp hw hl
theorem RigX.cutArg {A : Option Addr} {l : List Int} {c : Nat} (h : RigX w0 Wb bx pw nv rd P D R w) (hr : RI w0 w0.heap.size A l) (hp : D.pending ≤ 1099511627776) (hl : l.length ≤ 1048576) :
    Calls Try.prog 16 #[.pointer (some ⟨nv, 0, none⟩), .slice A l.length c] w fun e w' => e = .returned (.tuple #[]) ∧ RigX w0 Wb bx pw nv rd P (D.cut l) R w' :=
  h.prog (Kept.refl _ w) fun O s1 _ s3 => cut_any pw nv P D O A c l w s1 (h.nums hr) (fun hne ad e q => by rw [s3 _ (low_nums hr hne ad e)] at q; cases q) hp (by omega)
theorem RigX.rcutArg {A : Option Addr} {l : List Int} {c : Nat} (h : RigX w0 Wb bx pw nv rd P D R w) (hr : RI w0 w0.heap.size A l) (hp : R.l.length ≤ 1099511627776) (hl : l.length ≤ 1048576) :
    Calls Try.prog 11 #[.pointer (some ⟨rd, 0, none⟩), .slice A l.length c] w fun e w' => e = .returned (.tuple #[]) ∧ RigX w0 Wb bx pw nv rd P D (R.cut (keptOf R.l.length l)) w' :=
  h.ref (Kept.refl _ w) fun Q s1 _ _ => rcut_any rd R Q A c l w s1 (h.nums hr) hp (by omega)
theorem RigX.arm {A : Option Addr} {l : List Int} {c : Nat} (h : RigX w0 Wb bx pw nv rd P D R w) (n : Int) (hr : RI w0 w0.heap.size A l) (hl : l.length ≤ 1048576) :
    Calls Try.prog 17 #[.pointer (some ⟨pw, 0, none⟩), .int .i64 n, .slice A l.length c] w fun e w' => e = .returned (.tuple #[]) ∧ RigX w0 Wb bx pw nv rd (armP P n l) D R w' :=
  h.prog (Kept.refl _ w) fun O s1 _ _ => arm_any pw P nv D O n A c l w s1 (h.nums hr) hl
theorem RigX.on (h : RigX w0 Wb bx pw nv rd P D R w) : Calls Try.prog 18 #[.pointer (some ⟨pw, 0, none⟩)] w fun e w' => e = .returned (.tuple #[]) ∧ RigX w0 Wb bx pw nv rd { P with off := false } D R w' :=
  h.prog (Kept.refl _ w) fun O s1 _ _ => sysOn s1
theorem RigX.off (h : RigX w0 Wb bx pw nv rd P D R w) : Calls Try.prog 19 #[.pointer (some ⟨pw, 0, none⟩)] w fun e w' => e = .returned (.bool P.off) ∧ w = w' := by
  obtain ⟨O, Q, h1, _⟩ := h.st
  exact sysOff h1
theorem RigX.readAny (h : RigX w0 Wb bx pw nv rd P D R w) (at_ n : Int) (ha : at_ ≤ 9223372036854775807) :
    Calls Try.prog 21 #[.pointer (some ⟨nv, 0, none⟩), .int .i64 at_, .int .i64 n] w fun e w' => ∃ A c, e = .returned (.tuple #[.slice A (readBytes P D.mem at_ n).length c, .int .i64 (readCode P D.mem.length at_ n : Nat)]) ∧ RB w' w'.heap.size A (readBytes P D.mem at_ n) ∧ (∀ ad, A = some ad → w.heap.size ≤ ad.block) ∧ Below w.heap.size w w' ∧ RigX w0 Wb bx pw nv rd P D R w' := by
  obtain ⟨O, Q, h1, _⟩ := h.st
  refine (read_any pw nv P D O at_ n w h1 ha).mono fun e w' ⟨v, he, ho, hb⟩ => ?_
  obtain ⟨A, c, rfl, _, hr, _⟩ := Own.rb ho
  exact ⟨A, c, he, hr, fun ad e => Own.ge ho ad.block (by rw [e]; rfl), hb, h.below hb⟩
theorem RigX.all (h : RigX w0 Wb bx pw nv rd P D R w) (hl : R.l.length ≤ 1099511627776) :
    Calls Try.prog 22 #[.pointer (some ⟨rd, 0, none⟩)] w fun e w' => ∃ A c, e = .returned (.slice A R.all.length c) ∧ RB w' w'.heap.size A R.all ∧ R.all.length ≤ c ∧ Below w.heap.size w w' ∧ RigX w0 Wb bx pw nv rd P D R w' := by
  obtain ⟨O, Q, h1, h2, _⟩ := h.st
  refine (all_any rd R Q w h2 hl).mono fun e w' ⟨v, he, ho, hb⟩ => ?_
  obtain ⟨A, c, rfl, hc, hr, _⟩ := Own.rb ho
  exact ⟨A, c, he, hr, hc, hb, h.below hb⟩
theorem RigX.rwrite {A : Option Addr} {bs : List UInt8} {c : Nat} (h : RigX w0 Wb bx pw nv rd P D R w) (a : Nat) (hr : RB w0 w0.heap.size A bs) (hf : a + bs.length ≤ R.kept.length) (hl : R.l.length + bs.length ≤ 1099511627776) :
    Calls Try.prog 13 #[.pointer (some ⟨rd, 0, none⟩), .int .i64 (a : Int), .slice A bs.length c] w fun e w' => e = .returned (.tuple #[]) ∧ RigX w0 Wb bx pw nv rd P D (R.write a bs) w' :=
  h.ref (Kept.refl _ w) fun Q s1 _ s3 => rwrite_any rd a R Q A c bs w s1 (h.bytes hr) (fun hne ad e => s3 _ (by
    rcases bs with _ | ⟨x, t⟩
    · exact absurd rfl hne
    · obtain ⟨ad', e', hlt, _⟩ := hr 0 x rfl
      rw [e] at e'
      cases e'
      exact hlt)) hf hl
theorem RigX.fits (h : RigX w0 Wb bx pw nv rd P D R w) (at_ m : Int) : Calls Try.prog 10 #[.pointer (some ⟨rd, 0, none⟩), .int .i64 at_, .int .i64 m] w fun e w' => e = .returned (.bool (hasB R.kept.length at_ m)) ∧ w = w' := by
  obtain ⟨O, Q, h1, h2, _⟩ := h.st
  exact fits_any rd R Q at_ m w h2
theorem RigX.rpersist (h : RigX w0 Wb bx pw nv rd P D R w) (hl : R.l.length ≤ 1099511627776) :
    Calls Try.prog 15 #[.pointer (some ⟨rd, 0, none⟩)] w fun e w' => e = .returned (.tuple #[]) ∧ RigX w0 Wb bx pw nv rd P D R.persist w' :=
  h.ref (Kept.refl _ w) fun Q s1 _ _ => rpersist_any rd R Q w s1 hl
theorem RigX.pending (h : RigX w0 Wb bx pw nv rd P D R w) : Calls Try.prog 20 #[.pointer (some ⟨nv, 0, none⟩)] w fun e w' => e = .returned (.int .i64 (D.pending : Int)) ∧ w = w' := by
  obtain ⟨O, Q, h1, h2, _⟩ := h.st
  exact sysPending h1
end
end Go.Proofs.Ytoeeppecinjiiaa

/-
  NvramPlays: each act's steps, on both devices, for a power in any state.
-/
import Derived.Test.YtoeeppecinjiiaaNvArm
namespace Go.Proofs.Ytoeeppecinjiiaa
open Go.RowKit

/-- two parts, whose bytes lie in memory that nobody owns -/
theorem PartsOk.two {w : World} {O : Nat → Option Tag} {A B : Option Addr} {l m : List UInt8} {c e : Nat} {t : TypeId} {pw nv : Nat} {P : Pow} {D : Dev} (h : SysAt w O pw P nv D) (hr : RB w w.heap.size A l) (hA : l ≠ [] → ∀ ad, A = some ad → O ad.block = none)
    (hs : RB w w.heap.size B m) (hB : m ≠ [] → ∀ ad, B = some ad → O ad.block = none) :
    PartsOk (w.alloc (.cells #[.slice A l.length c, .slice B m.length e] t)) O w.heap.size [l, m] := by
  refine ⟨by simp, h.free (Nat.le_refl _), fun k x hx => ?_⟩
  match k, hx with
  | 0, hx =>
    cases hx
    exact ⟨A, c, (Cells.new w #[.slice A l.length c, .slice B m.length e] t).cell (i := 0) rfl, (hr.alloc (Nat.le_refl _) _).wide (by simp), hA⟩
  | 1, hx =>
    cases hx
    exact ⟨B, e, (Cells.new w #[.slice A l.length c, .slice B m.length e] t).cell (i := 1) rfl, (hs.alloc (Nat.le_refl _) _).wide (by simp), hB⟩
section
variable {w0 w W : World} {pw nv rd : Nat} {P : Pow} {D : Dev} {R : Ref}
theorem low_free {O : Nat → Option Tag} {A : Option Addr} {l : List UInt8} (hr : RB w0 w0.heap.size A l) (ho : ∀ b, b < w0.heap.size → O b = none) (hne : l ≠ []) : ∀ ad, A = some ad → O ad.block = none := fun ad e => ho _ (by
  rcases l with _ | ⟨x, t⟩
  · exact absurd rfl hne
  · obtain ⟨ad', e', hlt, _⟩ := hr 0 x rfl
    rw [e] at e'
    cases e'
    exact hlt)
theorem low_nums {A : Option Addr} {l : List Int} (hr : RI w0 w0.heap.size A l) (hne : l ≠ []) : ∀ ad, A = some ad → ad.block < w0.heap.size := fun ad e => by
  rcases l with _ | ⟨x, t⟩
  · exact absurd rfl hne
  · obtain ⟨ad', e', hlt, _⟩ := hr 0 x rfl
    rw [e] at e'
    cases e'
    exact hlt
/-- a Write of two parts -/
theorem Rig.write2 {A B : Option Addr} {l m : List UInt8} {c e : Nat} (h : Rig w0 pw nv rd P D R w) (at_ : Int) (hr : RB w0 w0.heap.size A l) (hs : RB w0 w0.heap.size B m) (hp : D.pending + l.length + m.length ≤ 1099511627776) (hw : P.writes ≤ 1099511627776) (hl : P.left ≤ 9223372036854775807) (ha : at_ ≤ 9223372036854775807) :
    Calls Try.prog 12 #[.pointer (some ⟨nv, 0, none⟩), .int .i64 at_, .slice (some ⟨w.heap.size, 0, none⟩) 2 2] (w.alloc (.cells #[.slice A l.length c, .slice B m.length e] 35)) fun ev w' => ev = .returned (.int .i64 (wrCode P D.mem.length at_ [l, m] : Nat)) ∧ Rig w0 pw nv rd (wrP P D.mem.length at_ [l, m]) (wrD P D at_ [l, m]) R w' := by
  refine h.prog ((Kept.refl _ w).alloc _) fun O s1 s2 s3 => ?_
  have hp1 := PartsOk.two (t := 35) (c := c) (e := e) s1 (h.bytes hr) (low_free hr s3) (h.bytes hs) (low_free hs s3)
  exact nwrite_any pw nv P D O at_ w.heap.size 2 [l, m] _ s2 hp1 (by simp) (by simp [total]; omega) hw hl ha
theorem Rig.persistAny (h : Rig w0 pw nv rd P D R w) (hp : D.pending ≤ 1099511627776) (hw : P.writes ≤ 1099511627776) (hl : P.left ≤ 9223372036854775807) :
    Calls Try.prog 14 #[.pointer (some ⟨nv, 0, none⟩)] w fun e w' => e = .returned (.int .i64 (perCode P : Nat)) ∧ Rig w0 pw nv rd (perP P) (perD P D) R w' :=
  h.prog (Kept.refl _ w) fun O s1 _ _ => persist_any pw nv P D O w s1 hp hw hl
theorem Rig.cutArg {A : Option Addr} {l : List Int} {c : Nat} (h : Rig w0 pw nv rd P D R w) (hr : RI w0 w0.heap.size A l) (hp : D.pending ≤ 1099511627776) (hl : l.length ≤ 1048576) :
    Calls Try.prog 16 #[.pointer (some ⟨nv, 0, none⟩), .slice A l.length c] w fun e w' => e = .returned (.tuple #[]) ∧ Rig w0 pw nv rd P (D.cut l) R w' :=
  h.prog (Kept.refl _ w) fun O s1 _ s3 => cut_any pw nv P D O A c l w s1 (h.nums hr) (fun hne ad e q => by rw [s3 _ (low_nums hr hne ad e)] at q; cases q) hp (by omega)
theorem Rig.rcutArg {A : Option Addr} {l : List Int} {c : Nat} (h : Rig w0 pw nv rd P D R w) (hr : RI w0 w0.heap.size A l) (hp : R.l.length ≤ 1099511627776) (hl : l.length ≤ 1048576) :
    Calls Try.prog 11 #[.pointer (some ⟨rd, 0, none⟩), .slice A l.length c] w fun e w' => e = .returned (.tuple #[]) ∧ Rig w0 pw nv rd P D (R.cut (keptOf R.l.length l)) w' :=
  h.ref (Kept.refl _ w) fun Q s1 _ _ => rcut_any rd R Q A c l w s1 (h.nums hr) hp (by omega)
theorem Rig.arm {A : Option Addr} {l : List Int} {c : Nat} (h : Rig w0 pw nv rd P D R w) (n : Int) (hr : RI w0 w0.heap.size A l) (hl : l.length ≤ 1048576) :
    Calls Try.prog 17 #[.pointer (some ⟨pw, 0, none⟩), .int .i64 n, .slice A l.length c] w fun e w' => e = .returned (.tuple #[]) ∧ Rig w0 pw nv rd (armP P n l) D R w' :=
  h.prog (Kept.refl _ w) fun O s1 _ _ => arm_any pw P nv D O n A c l w s1 (h.nums hr) hl
theorem Rig.on (h : Rig w0 pw nv rd P D R w) : Calls Try.prog 18 #[.pointer (some ⟨pw, 0, none⟩)] w fun e w' => e = .returned (.tuple #[]) ∧ Rig w0 pw nv rd { P with off := false } D R w' :=
  h.prog (Kept.refl _ w) fun O s1 _ _ => sysOn s1
theorem Rig.off (h : Rig w0 pw nv rd P D R w) : Calls Try.prog 19 #[.pointer (some ⟨pw, 0, none⟩)] w fun e w' => e = .returned (.bool P.off) ∧ w = w' := by
  obtain ⟨O, Q, h1, _⟩ := h.st
  exact sysOff h1
theorem Rig.readAny (h : Rig w0 pw nv rd P D R w) (at_ n : Int) (ha : at_ ≤ 9223372036854775807) :
    Calls Try.prog 21 #[.pointer (some ⟨nv, 0, none⟩), .int .i64 at_, .int .i64 n] w fun e w' => ∃ A c, e = .returned (.tuple #[.slice A (readBytes P D.mem at_ n).length c, .int .i64 (readCode P D.mem.length at_ n : Nat)]) ∧ RB w' w'.heap.size A (readBytes P D.mem at_ n) ∧ (∀ ad, A = some ad → w.heap.size ≤ ad.block) ∧ Below w.heap.size w w' ∧ Rig w0 pw nv rd P D R w' := by
  obtain ⟨O, Q, h1, _⟩ := h.st
  refine (read_any pw nv P D O at_ n w h1 ha).mono fun e w' ⟨v, he, ho, hb⟩ => ?_
  obtain ⟨A, c, rfl, _, hr, _⟩ := Own.rb ho
  exact ⟨A, c, he, hr, fun ad e => Own.ge ho ad.block (by rw [e]; rfl), hb, h.below hb⟩
theorem Rig.all (h : Rig w0 pw nv rd P D R w) (hl : R.l.length ≤ 1099511627776) :
    Calls Try.prog 22 #[.pointer (some ⟨rd, 0, none⟩)] w fun e w' => ∃ A c, e = .returned (.slice A R.all.length c) ∧ RB w' w'.heap.size A R.all ∧ R.all.length ≤ c ∧ Below w.heap.size w w' ∧ Rig w0 pw nv rd P D R w' := by
  obtain ⟨O, Q, h1, h2, _⟩ := h.st
  refine (all_any rd R Q w h2 hl).mono fun e w' ⟨v, he, ho, hb⟩ => ?_
  obtain ⟨A, c, rfl, hc, hr, _⟩ := Own.rb ho
  exact ⟨A, c, he, hr, hc, hb, h.below hb⟩
end

/-- the law's numbers of the power, and the program's -/
structure Like (off : Bool) (armed : Nat) (picks : List Int) (P : Pow) : Prop where
  off_ : P.off = off
  left_ : P.left = armed
  picks_ : armed ≠ 0 → P.picks = picks
section
variable {off : Bool} {armed : Nat} {picks : List Int} {P : Pow} {D : Dev} {R : Ref}
theorem Like.new : Like false 0 [] Pow.new := ⟨rfl, rfl, fun h => absurd rfl h⟩
theorem Like.arm (h : Like off armed picks P) (n : Int) (l : List Int) : Like off (max n 1).toNat l (armP P n l) := ⟨h.off_, rfl, fun _ => rfl⟩
theorem Like.on (h : Like off armed picks P) : Like false armed picks { P with off := false } := ⟨rfl, h.left_, h.picks_⟩
/-- a write that the power takes part in: not armed, or not yet -/
theorem Like.go (h : Like false armed picks P) (hn : armed ≠ 1) : writeOk P = true ∧ Like false (armed - 1) picks (writeP P) := by
  have h1 := h.off_
  have h2 := h.left_
  refine ⟨by unfold writeOk; rw [h1, h2]; simp [hn], ?_⟩
  unfold writeP
  rw [h1, h2]
  rw [if_neg (by simp), if_neg hn]
  exact ⟨rfl, rfl, fun q => h.picks_ (by intro e; subst e; exact q rfl)⟩
/-- the armed one -/
theorem Like.strike (h : Like false 1 picks P) (ha : Alike D R) : writeOk P = false ∧ Like true 0 picks (writeP P) ∧ Alike (writeD P D) (R.cut (keptOf R.l.length picks)) := by
  have h1 := h.off_
  have h2 := h.left_
  have h3 := h.picks_ (by simp)
  refine ⟨by unfold writeOk; rw [h1, h2]; rfl, ?_, ?_⟩
  · unfold writeP
    rw [h1, h2]
    rw [if_neg (by simp), if_pos rfl]
    exact ⟨rfl, rfl, fun q => absurd rfl q⟩
  · unfold writeD
    rw [h1, h2, h3]
    rw [if_neg (by simp), if_pos rfl]
    exact ha.cut picks
end
end Go.Proofs.Ytoeeppecinjiiaa

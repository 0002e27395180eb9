/-
  NvramPlays: what holds between the parts of a round.
-/
import Derived.Test.YtoeeppecinjiiaaNv21
import Derived.Test.YtoeeppecinjiiaaZText
namespace Go.Proofs.Ytoeeppecinjiiaa
open Go.RowKit

def halves (b : List UInt8) : List (List UInt8) := [b.take (b.length / 2), b.drop (b.length / 2)]
theorem halves_total (b : List UInt8) : total (halves b) = b.length := by
  simp [total, halves]; omega
theorem halves_flat (b : List UInt8) : (halves b).flatten = b := by simp [halves]
theorem fit_halves (N : Nat) (at_ : Int) (b : List UInt8) : fitB N at_ (halves b) = hasB N at_ (b.length : Int) := by
  unfold fitB hasB
  rw [halves_total]
  by_cases h : 0 ≤ at_ ∧ at_ + (b.length : Int) ≤ (N : Int)
  · rw [decide_eq_true h, decide_eq_true ⟨h.1, by omega, by omega⟩]
  · rw [decide_eq_false h, decide_eq_false]
    rintro ⟨a, _, c⟩
    exact h ⟨a, by omega⟩

/-- between rounds -/
def Pl (w0 : World) (pw nv rd N k : Nat) (off : Bool) (armed : Nat) (picks : List Int) (w : World) : Prop :=
  ∃ P D R, Rig w0 pw nv rd P D R w ∧ Alike D R ∧ Like off armed picks P ∧ D.mem.length = N ∧ P.writes ≤ k ∧ D.pending ≤ k * 5000
/-- the same, with the act's box -/
def PlX (w0 Wb : World) (bx pw nv rd N k : Nat) (off : Bool) (armed : Nat) (picks : List Int) (w : World) : Prop :=
  ∃ P D R, RigX w0 Wb bx pw nv rd P D R w ∧ Alike D R ∧ Like off armed picks P ∧ D.mem.length = N ∧ P.writes ≤ k ∧ D.pending ≤ k * 5000
/-- ahead of the act, the law's own reckoning being done -/
def MidX (w0 Wb : World) (bx pw nv rd N k : Nat) (x : PAct) (want : Nat) (off : Bool) (armed : Nat) (picks : List Int) (w : World) : Prop :=
  ∃ P D R, RigX w0 Wb bx pw nv rd P D R w ∧ D.mem.length = N ∧ R.kept.length = N ∧ R.l.length ≤ k * 5000 ∧ D.pending ≤ k * 5000 ∧ P.writes ≤ k ∧ P.left ≤ 9223372036854775807 ∧
    (x.op = 1 → wrCode P N x.place (halves x.bytes) = want ∧ Like off armed picks (wrP P N x.place (halves x.bytes)) ∧ (want = 0 → hasB N x.place (x.bytes.length : Int) = true ∧ Alike (wrD P D x.place (halves x.bytes)) (R.write x.place.toNat x.bytes)) ∧ (want ≠ 0 → Alike (wrD P D x.place (halves x.bytes)) R)) ∧
    (x.op = 2 → perCode P = want ∧ Like off armed picks (perP P) ∧ (want = 0 → Alike (perD P D) R.persist) ∧ (want ≠ 0 → Alike (perD P D) R)) ∧
    (x.op ≠ 1 → x.op ≠ 2 → Alike D R ∧ Like off armed picks P)
/-- behind the program's own step -/
def Aft (w0 Wb : World) (bx pw nv rd N k want : Nat) (f : Ref → Ref) (off : Bool) (armed : Nat) (picks : List Int) (w : World) : Prop :=
  ∃ P D R, RigX w0 Wb bx pw nv rd P D R w ∧ Like off armed picks P ∧ D.mem.length = N ∧ R.kept.length = N ∧ R.l.length ≤ k * 5000 ∧ P.writes ≤ k + 1 ∧ D.pending ≤ (k + 1) * 5000 ∧ (want = 0 → Alike D (f R)) ∧ (want ≠ 0 → Alike D R)

set_option maxRecDepth 20000
theorem writeP_writes (P : Pow) : (writeP P).writes ≤ P.writes + 1 := by
  unfold writeP
  split
  · omega
  · split
    · show P.writes ≤ _; omega
    · show P.writes + 1 ≤ _; omega
theorem like_left {off : Bool} {armed : Nat} {picks : List Int} {P : Pow} (h : Like off armed picks P) (ha : armed ≤ 9223372036854775807) : P.left ≤ 9223372036854775807 := by rw [h.left_]; exact ha
section
variable {w0 w W Wb : World} {bx pw nv rd N k : Nat} {off : Bool} {armed : Nat} {picks : List Int} {x : PAct} {P : Pow} {D : Dev} {R : Ref}
theorem Pl.boxed (h : Pl w0 pw nv rd N k off armed picks w) (ob : Obj) : PlX w0 (w.alloc ob) w.heap.size pw nv rd N k off armed picks (w.alloc ob) := by
  obtain ⟨P, D, R, h1, h2⟩ := h
  exact ⟨P, D, R, h1.boxed ob, h2⟩
theorem PlX.pl (h : PlX w0 Wb bx pw nv rd N k off armed picks w) : Pl w0 pw nv rd N k off armed picks w := by
  obtain ⟨P, D, R, h1, h2⟩ := h
  exact ⟨P, D, R, h1.rig, h2⟩
theorem PlX.more (h : PlX w0 Wb bx pw nv rd N k off armed picks w) : PlX w0 Wb bx pw nv rd N (k + 1) off armed picks w := by
  obtain ⟨P, D, R, h1, h2, h3, h4, h5, h6⟩ := h
  exact ⟨P, D, R, h1, h2, h3, h4, by omega, by omega⟩
theorem PlX.cellx (h : PlX w0 Wb bx pw nv rd N k off armed picks w) {i : Nat} {v : Value} (hc : Wb.cell? ⟨bx, i, none⟩ = some v) : w.cell? ⟨bx, i, none⟩ = some v := by
  obtain ⟨P, D, R, h1, _⟩ := h
  exact h1.cellx hc
theorem MidX.cellx {want : Nat} (h : MidX w0 Wb bx pw nv rd N k x want off armed picks w) {i : Nat} {v : Value} (hc : Wb.cell? ⟨bx, i, none⟩ = some v) : w.cell? ⟨bx, i, none⟩ = some v := by
  obtain ⟨P, D, R, h1, _⟩ := h
  exact h1.cellx hc
theorem Aft.cellx {want : Nat} {f : Ref → Ref} (h : Aft w0 Wb bx pw nv rd N k want f off armed picks w) {i : Nat} {v : Value} (hc : Wb.cell? ⟨bx, i, none⟩ = some v) : w.cell? ⟨bx, i, none⟩ = some v := by
  obtain ⟨P, D, R, h1, _⟩ := h
  exact h1.cellx hc
theorem PlX.fits (h : PlX w0 Wb bx pw nv rd N k off armed picks w) (at_ m : Int) : Calls Try.prog 10 #[.pointer (some ⟨rd, 0, none⟩), .int .i64 at_, .int .i64 m] w fun e w' => e = .returned (.bool (hasB N at_ m)) ∧ w = w' := by
  obtain ⟨P, D, R, h1, h2, h3, h4, h5, h6⟩ := h
  rw [← h4, h2.size]
  exact h1.rig.fits at_ m

/-- a common part of what MidX asks -/
theorem mid_of (h1 : RigX w0 Wb bx pw nv rd P D R w) (h4 : D.mem.length = N) (hk : R.kept.length = N) (hl : R.l.length ≤ k * 5000) (h5 : P.writes ≤ k) (h6 : D.pending ≤ k * 5000) (h7 : P.left ≤ 9223372036854775807) {want : Nat}
    (q1 : x.op = 1 → wrCode P N x.place (halves x.bytes) = want ∧ Like off armed picks (wrP P N x.place (halves x.bytes)) ∧ (want = 0 → hasB N x.place (x.bytes.length : Int) = true ∧ Alike (wrD P D x.place (halves x.bytes)) (R.write x.place.toNat x.bytes)) ∧ (want ≠ 0 → Alike (wrD P D x.place (halves x.bytes)) R))
    (q2 : x.op = 2 → perCode P = want ∧ Like off armed picks (perP P) ∧ (want = 0 → Alike (perD P D) R.persist) ∧ (want ≠ 0 → Alike (perD P D) R))
    (q3 : x.op ≠ 1 → x.op ≠ 2 → Alike D R ∧ Like off armed picks P) : MidX w0 Wb bx pw nv rd N k x want off armed picks w :=
  ⟨P, D, R, h1, h4, hk, hl, h6, h5, h7, q1, q2, q3⟩
/-- the power is off: a Write, a Persist is refused -/
theorem PlX.down (h : PlX w0 Wb bx pw nv rd N k true armed picks w) (ha : armed ≤ 9223372036854775807) (hop : x.op = 1 ∨ x.op = 2) : MidX w0 Wb bx pw nv rd N k x 8 true armed picks w := by
  obtain ⟨P, D, R, h1, h2, h3, h4, h5, h6⟩ := h
  have ho := h3.off_
  refine mid_of h1 h4 (by rw [← h2.size, h4]) (by rw [← h2.count]; exact h6) h5 h6 (like_left h3 ha) (fun _ => ?_) (fun _ => ?_) (fun a b => by omega)
  · have e1 : wrCode P N x.place (halves x.bytes) = 8 := by unfold wrCode; rw [ho]; rfl
    have e2 : wrP P N x.place (halves x.bytes) = P := by unfold wrP; rw [ho]; rfl
    have e3 : wrD P D x.place (halves x.bytes) = D := by unfold wrD; rw [ho]; rfl
    rw [e1, e2, e3]
    exact ⟨rfl, h3, fun h => by omega, fun _ => h2⟩
  · have e0 : writeOk P = false := by unfold writeOk; rw [ho]; rfl
    have e1 : perCode P = 8 := by unfold perCode; rw [e0]; rfl
    have e2 : perP P = P := by unfold perP writeP; rw [ho]; rfl
    have e3 : perD P D = D := by unfold perD writeD; rw [e0, ho]; rfl
    rw [e1, e2, e3]
    exact ⟨rfl, h3, fun h => by omega, fun _ => h2⟩
/-- a Write that doesn't fit -/
theorem PlX.misfit (h : PlX w0 Wb bx pw nv rd N k false armed picks w) (ha : armed ≤ 9223372036854775807) (hop : x.op = 1) (hf : hasB N x.place (x.bytes.length : Int) = false) : MidX w0 Wb bx pw nv rd N k x 1 false armed picks w := by
  obtain ⟨P, D, R, h1, h2, h3, h4, h5, h6⟩ := h
  have ho := h3.off_
  have hf' : fitB N x.place (halves x.bytes) = false := by rw [fit_halves]; exact hf
  refine mid_of h1 h4 (by rw [← h2.size, h4]) (by rw [← h2.count]; exact h6) h5 h6 (like_left h3 ha) (fun _ => ?_) (fun b => by omega) (fun a b => by omega)
  have e1 : wrCode P N x.place (halves x.bytes) = 1 := by unfold wrCode; rw [ho, hf']; rfl
  have e2 : wrP P N x.place (halves x.bytes) = P := by unfold wrP; rw [ho, hf']; rfl
  have e3 : wrD P D x.place (halves x.bytes) = D := by unfold wrD; rw [ho, h4, hf']; rfl
  rw [e1, e2, e3]
  exact ⟨rfl, h3, fun h => by omega, fun _ => h2⟩
/-- one that is done -/
theorem PlX.goes (h : PlX w0 Wb bx pw nv rd N k false armed picks w) (ha : armed ≤ 9223372036854775807) (hop : x.op = 1 ∧ hasB N x.place (x.bytes.length : Int) = true ∨ x.op = 2) (hn : armed ≠ 1) : MidX w0 Wb bx pw nv rd N k x 0 false (armed - 1) picks w := by
  obtain ⟨P, D, R, h1, h2, h3, h4, h5, h6⟩ := h
  have ho := h3.off_
  obtain ⟨g1, g2⟩ := h3.go hn
  refine mid_of h1 h4 (by rw [← h2.size, h4]) (by rw [← h2.count]; exact h6) h5 h6 (like_left h3 ha) (fun e => ?_) (fun e => ?_) (fun a b => by omega)
  · have hf : hasB N x.place (x.bytes.length : Int) = true := by
      rcases hop with ⟨_, q⟩ | q
      · exact q
      · omega
    have hf' : fitB N x.place (halves x.bytes) = true := by rw [fit_halves]; exact hf
    have e1 : wrCode P N x.place (halves x.bytes) = 0 := by unfold wrCode; rw [ho, hf', g1]; rfl
    have e2 : wrP P N x.place (halves x.bytes) = writeP P := by unfold wrP; rw [ho, hf']; rfl
    have e3 : wrD P D x.place (halves x.bytes) = D.putAll x.place.toNat (halves x.bytes) := by unfold wrD; rw [ho, h4, hf', g1]; rfl
    rw [e1, e2, e3]
    refine ⟨rfl, g2, fun _ => ⟨hf, ?_⟩, fun h => absurd rfl h⟩
    obtain ⟨b1, b2, b3⟩ := of_decide_eq_true hf
    have := h2.putAll (halves x.bytes) x.place.toNat (by rw [halves_total, h4]; omega)
    rwa [halves_flat] at this
  · have e1 : perCode P = 0 := by unfold perCode; rw [g1]; rfl
    have e3 : perD P D = D.settle := by unfold perD; rw [g1]; rfl
    rw [e1, e3]
    exact ⟨rfl, g2, fun _ => h2.settle, fun h => absurd rfl h⟩
/-- the armed one: the law cuts first -/
theorem PlX.strike (h : PlX w0 Wb bx pw nv rd N k false 1 picks w) (hop : x.op = 1 ∧ hasB N x.place (x.bytes.length : Int) = true ∨ x.op = 2) (hk : k ≤ 300) {A : Option Addr} {c : Nat} (hr : RI w0 w0.heap.size A picks) (hl : picks.length ≤ 1048576) :
    Calls Try.prog 11 #[.pointer (some ⟨rd, 0, none⟩), .slice A picks.length c] w fun e w' => e = .returned (.tuple #[]) ∧ MidX w0 Wb bx pw nv rd N k x 8 true 0 picks w' := by
  obtain ⟨P, D, R, h1, h2, h3, h4, h5, h6⟩ := h
  have ho := h3.off_
  obtain ⟨g1, g2, g3⟩ := h3.strike h2
  have hcnt := h2.count
  have hsz := h2.size
  refine (h1.rcutArg hr (by omega) hl).mono fun e w' ⟨he, q⟩ => ⟨he, ?_⟩
  refine mid_of q h4 (by show (lay R.kept _).length = _; rw [lay_length, ← hsz, h4]) (Nat.zero_le _) h5 h6 (like_left h3 (by omega)) (fun e => ?_) (fun e => ?_) (fun a b => by omega)
  · have hf : hasB N x.place (x.bytes.length : Int) = true := by
      rcases hop with ⟨_, q⟩ | q
      · exact q
      · omega
    have hf' : fitB N x.place (halves x.bytes) = true := by rw [fit_halves]; exact hf
    have e1 : wrCode P N x.place (halves x.bytes) = 8 := by unfold wrCode; rw [ho, hf', g1]; rfl
    have e2 : wrP P N x.place (halves x.bytes) = writeP P := by unfold wrP; rw [ho, hf']; rfl
    have e3 : wrD P D x.place (halves x.bytes) = writeD P D := by unfold wrD; rw [ho, h4, hf', g1]; rfl
    rw [e1, e2, e3]
    exact ⟨rfl, g2, fun h => by omega, fun _ => g3⟩
  · have e1 : perCode P = 8 := by unfold perCode; rw [g1]; rfl
    have e3 : perD P D = writeD P D := by unfold perD; rw [g1]; rfl
    rw [e1, e3]
    exact ⟨rfl, g2, fun h => by omega, fun _ => g3⟩
/-- another act -/
theorem PlX.other (h : PlX w0 Wb bx pw nv rd N k off armed picks w) (ha : armed ≤ 9223372036854775807) (h1' : x.op ≠ 1) (h2' : x.op ≠ 2) (want : Nat) : MidX w0 Wb bx pw nv rd N k x want off armed picks w := by
  obtain ⟨P, D, R, h1, h2, h3, h4, h5, h6⟩ := h
  exact mid_of h1 h4 (by rw [← h2.size, h4]) (by rw [← h2.count]; exact h6) h5 h6 (like_left h3 ha) (fun e => absurd e h1') (fun e => absurd e h2') (fun _ _ => ⟨h2, h3⟩)
theorem MidX.plx {want : Nat} (h : MidX w0 Wb bx pw nv rd N k x want off armed picks w) (h1' : x.op ≠ 1) (h2' : x.op ≠ 2) : PlX w0 Wb bx pw nv rd N k off armed picks w := by
  obtain ⟨P, D, R, h1, h2, h3, h4, h5, h6, h7, _, _, q3⟩ := h
  obtain ⟨a, b⟩ := q3 h1' h2'
  exact ⟨P, D, R, h1, a, b, h2, h6, h5⟩
end
end Go.Proofs.Ytoeeppecinjiiaa

/-
  The small methods of the device and the power.
-/
import Derived.Test.YtoeeppecinjiiaaNv1
namespace Go.Proofs.Ytoeeppecinjiiaa
open Go.RowKit

def hasB (N : Nat) (at_ n : Int) : Bool := decide (0 ≤ at_ ∧ 0 ≤ n ∧ n ≤ (N : Int) - at_)
section
set_option maxRecDepth 20000
set_option maxHeartbeats 1000000
theorem off_any (pw : Nat) (b : Bool) (w : World) (h : w.cell? ⟨pw, 1, none⟩ = some (.bool b)) :
    Calls Try.prog 19 #[.pointer (some ⟨pw, 0, none⟩)] w fun e w' => e = .returned (.bool b) ∧ w = w' := by
  go_enter Try.func19, Try.ntmps19
  go_wp2_with fail
  go_ret
  exact ⟨rfl, rfl⟩
theorem pending_any (nv : Nat) (n : Int) (w : World) (h : w.cell? ⟨nv, 3, none⟩ = some (.int .i64 n)) :
    Calls Try.prog 20 #[.pointer (some ⟨nv, 0, none⟩)] w fun e w' => e = .returned (.int .i64 n) ∧ w = w' := by
  go_enter Try.func20, Try.ntmps20
  go_wp2_with fail
  go_ret
  exact ⟨rfl, rfl⟩
theorem size_any (nv N : Nat) (A : Option Addr) (c : Nat) (w : World) (h : w.cell? ⟨nv, 1, none⟩ = some (.slice A N c)) :
    Calls Try.prog 23 #[.pointer (some ⟨nv, 0, none⟩)] w fun e w' => e = .returned (.int .i64 (N : Int)) ∧ w = w' := by
  go_enter Try.func23, Try.ntmps23
  go_wp2_with fail
  go_ret
  exact ⟨rfl, rfl⟩
theorem has_any (nv N : Nat) (A : Option Addr) (c : Nat) (at_ n : Int) (w : World) (h : w.cell? ⟨nv, 1, none⟩ = some (.slice A N c)) (hN : N ≤ 67108864) (ha : at_ ≤ 9223372036854775807) :
    Calls Try.prog 31 #[.pointer (some ⟨nv, 0, none⟩), .int .i64 at_, .int .i64 n] w fun e w' => e = .returned (.bool (hasB N at_ n)) ∧ w = w' := by
  have hN' : (N : Int) ≤ 67108864 := by omega
  by_cases h0 : 0 ≤ at_
  case neg =>
    have e : hasB N at_ n = false := decide_eq_false (fun q => h0 q.1)
    rw [e]
    have h0' : at_ < 0 := by omega
    clear h0 e
    go_enter Try.func31, Try.ntmps31
    go_wp2_with fail
    go_ret
    exact ⟨rfl, rfl⟩
  by_cases h1 : 0 ≤ n
  case neg =>
    have e : hasB N at_ n = false := decide_eq_false (fun q => h1 q.2.1)
    rw [e]
    have h1' : n < 0 := by omega
    clear h1 e
    go_enter Try.func31, Try.ntmps31
    go_wp2_with fail
    go_ret
    exact ⟨rfl, rfl⟩
  have hw : IntKind.i64.wrap ((N : Int) - at_) = (N : Int) - at_ := IntWalk.i64_in _ (by omega)
  by_cases h2 : n ≤ (N : Int) - at_
  · have e : hasB N at_ n = true := decide_eq_true ⟨h0, h1, h2⟩
    rw [e]
    clear e
    go_enter Try.func31, Try.ntmps31
    go_wp2_with fail
    go_ret
    exact ⟨by simp [h2], rfl⟩
  · have e : hasB N at_ n = false := decide_eq_false (fun q => h2 q.2.2)
    rw [e]
    have h2' : (N : Int) - at_ < n := by omega
    clear e h2
    go_enter Try.func31, Try.ntmps31
    go_wp2_with fail
    go_ret
    exact ⟨by simp [h2'], rfl⟩

def Dev.settle (D : Dev) : Dev := { D with undos := [], pending := 0 }
theorem Dev.Ok.settle {D : Dev} (h : D.Ok) : D.settle.Ok := ⟨h.low, h.high, fun u hu => by simp [Dev.settle] at hu, fun u hu => by simp [Dev.settle] at hu, fun u hu => by simp [Dev.settle] at hu, Nat.zero_le _⟩
theorem SysAt.settled {w : World} {O : Nat → Option Tag} {pw nv : Nat} {P : Pow} {D : Dev} (h : SysAt w O pw P nv D) :
    SysAt ((w.setCell ⟨nv, 2, none⟩ (.slice none 0 0)).setCell ⟨nv, 3, none⟩ (.int .i64 0)) O pw P nv D.settle ∧ Ext w O ((w.setCell ⟨nv, 2, none⟩ (.slice none 0 0)).setCell ⟨nv, 3, none⟩ (.int .i64 0)) O := by
  obtain ⟨bb, uv, vs, c1, t1, c2, t2, o1, o2, o3, o4⟩ := h.dev
  have hk : Kept (fun b => b ≠ nv) w ((w.setCell ⟨nv, 2, none⟩ (.slice none 0 0)).setCell ⟨nv, 3, none⟩ (.int .i64 0)) := ((Kept.refl _ w).setCell (fun h => h rfl) _).setCell (fun h => h rfl) _
  have ha : Agree (fun t => t ≠ .nv) w O ((w.setCell ⟨nv, 2, none⟩ (.slice none 0 0)).setCell ⟨nv, 3, none⟩ (.int .i64 0)) O := hk.agree fun b t hb ht e => ht (by rw [e, t1] at hb; cases hb; rfl)
  refine ⟨⟨fun b hb => Nat.lt_of_lt_of_le (h.fresh b hb) hk.size, ⟨bb, .slice none 0 0, [], (c1.set 2 _).set 3 _, t1, (hk.block bb c2.lt (fun e => by rw [e, t1] at t2; cases t2)).trans c2, t2, OwnV.nil _ _ _, (fun g hg => by cases hg), rfl, fun k u hu => by simp [Dev.settle] at hu⟩, h.ok.settle, h.pow.keep h.fresh hk.size ha (by intro e; cases e) (by intro e; cases e) (by intro e; cases e)⟩, ⟨hk.mono (fun b _ hb e => by rw [e, t1] at hb; cases hb), fun _ _ => rfl⟩⟩
theorem settle_any (pw nv : Nat) (P : Pow) (D : Dev) (O : Nat → Option Tag) (w : World) (h : SysAt w O pw P nv D) :
    Calls Try.prog 29 #[.pointer (some ⟨nv, 0, none⟩)] w (SysPost w O pw P nv D.settle (.tuple #[])) := by
  obtain ⟨q1, q2⟩ := h.settled
  have Hq : Hid (SysPost w O pw P nv D.settle (.tuple #[]) (.returned (.tuple #[])) ((w.setCell ⟨nv, 2, none⟩ (.slice none 0 0)).setCell ⟨nv, 3, none⟩ (.int .i64 0))) := ⟨O, rfl, q1, q2⟩
  obtain ⟨bb, uv, vs, c1, _⟩ := h.dev
  have k2 := c1.cell (i := 2) rfl
  have k3 := c1.cell (i := 3) rfl
  have f2 := c1.frozen 2
  have f3 := c1.frozen 3
  clear h q1 q2 c1
  go_enter Try.func29, Try.ntmps29
  go_wp2_with fail
  go_end0
  exact Hq.out

/-- what a read tells -/
def readCode (P : Pow) (N : Nat) (at_ n : Int) : Nat := if P.off then 8 else if hasB N at_ n then 0 else 1
def readBytes (P : Pow) (mem : List UInt8) (at_ n : Int) : List UInt8 := if readCode P mem.length at_ n = 0 then (mem.drop at_.toNat).take n.toNat else []
def ReadPost (w : World) (l : List UInt8) (c : Nat) (e : Ending) (w' : World) : Prop := ∃ v, e = .returned (.tuple #[v, .int .i64 (c : Int)]) ∧ Own w' w.heap.size v l ∧ Below w.heap.size w w'
theorem read_any (pw nv : Nat) (P : Pow) (D : Dev) (O : Nat → Option Tag) (at_ n : Int) (w : World) (h : SysAt w O pw P nv D) (ha : at_ ≤ 9223372036854775807) :
    Calls Try.prog 21 #[.pointer (some ⟨nv, 0, none⟩), .int .i64 at_, .int .i64 n] w (ReadPost w (readBytes P D.mem at_ n) (readCode P D.mem.length at_ n)) := by
  obtain ⟨bb, uv, vs, c1, t1, c2, _⟩ := h.dev
  obtain ⟨dv, Ap, cp, p1, _⟩ := h.pow
  have k0 := c1.cell (i := 0) rfl
  have k1 := c1.cell (i := 1) rfl
  have Ho := Lib.hid (off_any pw P.off w (p1.cell rfl))
  have hN := h.ok.high
  have hN' : (D.mem.length : Int) ≤ 67108864 := by omega
  by_cases hoff : P.off = true
  · have e1 : readCode P D.mem.length at_ n = 8 := by unfold readCode; rw [if_pos hoff]
    have e2 : readBytes P D.mem at_ n = [] := by unfold readBytes; rw [e1]; rfl
    rw [e1, e2]
    rw [hoff] at Ho
    have Hs : Hid (ReadPost w [] 8 (.returned (.tuple #[.slice none 0 0, .int .i64 8])) w) := ⟨_, rfl, Own.nil _ _, Below.refl _ _⟩
    clear h c1 c2 p1 k1 hoff e1 e2
    go_enter Try.func21, Try.ntmps21
    go_wp2_with (go_at_call 19; refine Ho.out.mono ?_; rintro e w1 ⟨rfl, rfl⟩)
    go_ret2
    exact Hs.out
  have hoff' : P.off = false := by simpa using hoff
  rw [hoff'] at Ho
  have Hh := Lib.hid (has_any nv D.mem.length _ _ at_ n w k1 hN ha)
  by_cases hh : hasB D.mem.length at_ n = true
  case neg =>
    have hh' : hasB D.mem.length at_ n = false := by simpa using hh
    have e1 : readCode P D.mem.length at_ n = 1 := by unfold readCode; rw [hoff', hh']; rfl
    have e2 : readBytes P D.mem at_ n = [] := by unfold readBytes; rw [e1]; rfl
    rw [e1, e2]
    rw [hh'] at Hh
    have Hs : Hid (ReadPost w [] 1 (.returned (.tuple #[.slice none 0 0, .int .i64 1])) w) := ⟨_, rfl, Own.nil _ _, Below.refl _ _⟩
    clear h c1 c2 p1 k1 hoff e1 e2 hh hh'
    go_enter Try.func21, Try.ntmps21
    go_wp2_with (first | (go_at_call 19; refine Ho.out.mono ?_; rintro e w1 ⟨rfl, rfl⟩) | (go_at_call 31; refine Hh.out.mono ?_; rintro e w1 ⟨rfl, rfl⟩))
    go_ret2
    exact Hs.out
  have e1 : readCode P D.mem.length at_ n = 0 := by unfold readCode; rw [hoff', hh]; rfl
  obtain ⟨q0, q1, q2⟩ := of_decide_eq_true hh
  obtain ⟨a, rfl⟩ : ∃ a : Nat, at_ = (a : Int) := ⟨at_.toNat, by omega⟩
  obtain ⟨m, rfl⟩ : ∃ m : Nat, n = (m : Int) := ⟨n.toNat, by omega⟩
  have e2 : readBytes P D.mem (a : Int) (m : Int) = (D.mem.drop a).take m := by unfold readBytes; rw [if_pos e1]; rfl
  rw [e1, e2]
  rw [hh] at Hh
  have hlen : ((D.mem.drop a).take m).length = m := by simp; omega
  have Hcl : Hid (∀ (A : Option Addr) c, (m = 0 ∨ A = some ⟨bb, a, none⟩) → Calls Try.prog 32 #[.slice A m c] w fun e w' => ∃ v, e = .returned v ∧ Own w' w.heap.size v ((D.mem.drop a).take m) ∧ Below w.heap.size w w') := by
    intro A c hA
    have hr : RB w w.heap.size A ((D.mem.drop a).take m) := by
      rcases hA with rfl | rfl
      · simp only [List.take_zero]
        exact RB.nil _ _ _
      · exact ((c2.rb a).take m).wide c2.lt
    have := clone_any A c ((D.mem.drop a).take m) w w.heap.size hr (Nat.le_refl _) (by omega)
    rw [hlen] at this
    exact this
  have ham : (a : Int) + (m : Int) ≤ (D.mem.length : Int) := by omega
  have ha0 : (a : Int) ≤ (D.mem.length : Int) := by omega
  generalize (D.mem.drop a).take m = l at *
  generalize D.mem.length = N at *
  clear h c1 c2 p1 hoff e1 e2 hh q0 q1 q2 hlen hoff'
  go_enter Try.func21, Try.ntmps21
  go_wp2_with (first | (go_at_call 19; refine Ho.out.mono ?_; rintro e w1 ⟨rfl, rfl⟩) | (go_at_call 31; refine Hh.out.mono ?_; rintro e w1 ⟨rfl, rfl⟩))
  all_goals
    refine (Hcl.out _ _ (by first | exact .inr rfl | exact .inl (by omega))).mono ?_
    rintro e w1 ⟨v, rfl, hv, hb⟩
    have Hv := Lib.hid hv
    have Hb := Lib.hid hb
    clear hv hb
    go_wp2_with fail
    go_ret2
    exact ⟨v, rfl, Hv.out, Hb.out⟩
end
end Go.Proofs.Ytoeeppecinjiiaa

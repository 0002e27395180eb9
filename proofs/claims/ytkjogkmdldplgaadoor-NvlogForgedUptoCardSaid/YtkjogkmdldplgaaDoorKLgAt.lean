/-
  A log as a law sees it; a log is begun.
-/
import Derived.Test.YtkjogkmdldplgaaDoorLgWalkT
import Derived.Test.YtkjogkmdldplgaaDoorKLgLook
namespace Go.Proofs.YtkjogkmdldplgaaDoor
open Go.RowKit

/-- THE LOG AT lb, on the device nv of N bytes: its bounds b, its records rs; M: the blocks that it and its device own -/
def LG (w : World) (M : Nat → Prop) (pw nv lb : Nat) (P : Pow) (N : Nat) (b : Bd) (rs : List (List UInt8)) : Prop :=
  ∃ O m, SysAt w O pw P nv ⟨m, [], 0⟩ ∧ O lb = none ∧ LogC w lb nv (N - 57) ∧ m.length = N ∧ Holds m b rs ∧ ∀ x, M x ↔ (O x ≠ none ∨ x = lb)
def ExtM (w : World) (M : Nat → Prop) (w' : World) (M' : Nat → Prop) : Prop := Kept (fun x => ¬ M x) w w' ∧ ∀ x, x < w.heap.size → M' x → M x
section
variable {w w' w'' : World} {M M' M'' : Nat → Prop} {O O' : Nat → Option Tag} {pw nv lb N : Nat} {P P' : Pow} {b b' : Bd} {rs rs' : List (List UInt8)}
theorem ExtM.refl (w : World) (M : Nat → Prop) : ExtM w M w M := ⟨Kept.refl _ _, fun _ _ h => h⟩
theorem ExtM.trans (h : ExtM w M w' M') (k : ExtM w' M' w'' M'') : ExtM w M w'' M'' :=
  ⟨⟨k.1.os.trans h.1.os, k.1.tape.trans h.1.tape, k.1.output.trans h.1.output, Nat.le_trans h.1.size k.1.size, fun x hx hm => (k.1.block x (Nat.lt_of_lt_of_le hx h.1.size) (fun q => hm (h.2 x hx q))).trans (h.1.block x hx hm)⟩, fun x hx q => h.2 x hx (k.2 x (Nat.lt_of_lt_of_le hx h.1.size) q)⟩
theorem ExtM.below (h : Below w.heap.size w w') : ExtM w M w' M := ⟨Below.kept h _, fun _ _ h => h⟩
theorem LG.fresh (h : LG w M pw nv lb P N b rs) : ∀ x, M x → x < w.heap.size := by
  obtain ⟨O, m, h1, h2, h3, h4, h5, h6⟩ := h
  intro x hx
  rcases (h6 x).1 hx with q | q
  · exact h1.fresh x q
  · rw [q]; exact h3.lt
/-- somebody else's step -/
theorem LG.kept (h : LG w M pw nv lb P N b rs) (hk : Kept M w w') : LG w' M pw nv lb P N b rs := by
  obtain ⟨O, m, h1, h2, h3, h4, h5, h6⟩ := h
  exact ⟨O, m, h1.kept (hk.mono fun x _ q => (h6 x).2 (.inl q)), h2, h3.move (hk.block lb h3.lt ((h6 lb).2 (.inr rfl))), h4, h5, h6⟩
theorem LG.below (h : LG w M pw nv lb P N b rs) (hb : Below w.heap.size w w') : LG w' M pw nv lb P N b rs := h.kept (Below.kept hb _)
/-- behind a step of the log's own -/
theorem LG.of_ext {m' : List UInt8} (h3 : LogC w lb nv (N - 57)) (h6 : ∀ x, M x ↔ (O x ≠ none ∨ x = lb)) (h2 : O lb = none) (hx : ExtL lb w O w' O') (hs : SysAt w' O' pw P' nv ⟨m', [], 0⟩) (hl : LogC w' lb nv (N - 57)) (hm : m'.length = N) (hh : Holds m' b' rs') :
    ∃ M', LG w' M' pw nv lb P' N b' rs' ∧ ExtM w M w' M' := by
  have hlo : O' lb = none := (hx.2 lb h3.lt).trans h2
  refine ⟨fun x => O' x ≠ none ∨ x = lb, ⟨O', m', hs, hlo, hl, hm, hh, fun _ => Iff.rfl⟩, hx.1.mono fun x _ q => ?_, fun x hx' q => ?_⟩
  · refine ⟨?_, fun e => q ((h6 x).2 (.inr e))⟩
    cases hO : O x with
    | none => rfl
    | some t => exact absurd ((h6 x).2 (.inl (by rw [hO]; simp))) q
  · rcases q with q | q
    · rw [hx.2 x hx'] at q; exact (h6 x).2 (.inl q)
    · exact (h6 x).2 (.inr q)
theorem LG.look_step (h : LG w M pw nv lb P N b rs) {e : Ending} {v : Value} (hp : LookPost w lb nv (N - 57) b v e w') : e = .returned v ∧ LG w' M pw nv lb P N b rs ∧ ExtM w M w' M := by
  obtain ⟨O, m, h1, h2, h3, h4, h5, h6⟩ := h
  obtain ⟨he, q1, q2⟩ := hp
  exact ⟨he, ⟨O, m, h1.kept (q2.mono fun x _ q e => q (e ▸ h2)), h2, q1.logC, h4, h5, h6⟩, q2.mono fun x _ q e => q ((h6 x).2 (.inr e)), fun _ _ q => q⟩
theorem LG.room (h : LG w M pw nv lb P N b rs) (hoff : P.off = false) : Calls Tryd.prog 9 #[.pointer (some ⟨lb, 0, none⟩)] w fun e w' => e = .returned (.int .i64 (roomV (N - 57) b.used)) ∧ LG w' M pw nv lb P N b rs ∧ ExtM w M w' M := by
  have h' := h
  obtain ⟨O, m, h1, h2, h3, h4, h5, h6⟩ := h
  exact (Room_any pw nv lb (N - 57) P _ O b rs w h1 hoff h3 (by rw [← h4]) h5).mono fun e w' hp => h'.look_step hp
theorem LG.len (h : LG w M pw nv lb P N b rs) (hoff : P.off = false) : Calls Tryd.prog 10 #[.pointer (some ⟨lb, 0, none⟩)] w fun e w' => e = .returned (.int .i64 (rs.length : Int)) ∧ LG w' M pw nv lb P N b rs ∧ ExtM w M w' M := by
  have h' := h
  obtain ⟨O, m, h1, h2, h3, h4, h5, h6⟩ := h
  exact (Len_any pw nv lb (N - 57) P _ O b rs w h1 hoff h3 (by rw [← h4]) h5).mono fun e w' hp => h'.look_step hp
theorem LG.next (h : LG w M pw nv lb P N b rs) (hoff : P.off = false) : Calls Tryd.prog 17 #[.pointer (some ⟨lb, 0, none⟩)] w fun e w' => e = .returned (.int .u64 (b.next : Int)) ∧ LG w' M pw nv lb P N b rs ∧ ExtM w M w' M := by
  have h' := h
  obtain ⟨O, m, h1, h2, h3, h4, h5, h6⟩ := h
  exact (Next_any pw nv lb (N - 57) P _ O b rs w h1 hoff h3 (by rw [← h4]) h5).mono fun e w' hp => h'.look_step hp
end

section
set_option maxRecDepth 20000
set_option maxHeartbeats 4000000
def LogNew (w : World) (lb nv R : Nat) : Prop := Cells w lb 77 [.pointer (some ⟨nv, 0, none⟩), .int .i64 (R : Int), .int .u64 0, .int .u64 0, .int .i64 0, .int .i64 0]
theorem on_any (pw nv N : Nat) (P : Pow) (D : Dev) (O : Nat → Option Tag) (w : World) (h : SysAt w O pw P nv D) (hN : D.mem.length = N) (hlow : 256 ≤ N) :
    Calls Tryd.prog 19 #[.pointer (some ⟨nv, 0, none⟩)] w fun e w' => e = .returned (.tuple #[.pointer (some ⟨w.heap.size, 0, none⟩), .nilIface]) ∧ LogNew w' w.heap.size nv (N - 57) ∧ Below w.heap.size w w' := by
  have hhi := h.ok.high
  have Hsz := Lib.hid (sysSize h)
  rw [hN] at Hsz hhi
  have Hs : Hid (LogNew (w.alloc (.cells #[.pointer (some ⟨nv, 0, none⟩), .int .i64 ((N : Int) - 57), .int .u64 0, .int .u64 0, .int .i64 0, .int .i64 0] 77)) w.heap.size nv (N - 57)) := by
    have := Cells.new w #[.pointer (some ⟨nv, 0, none⟩), .int .i64 ((N : Int) - 57), .int .u64 0, .int .u64 0, .int .i64 0, .int .i64 0] 77
    rw [show (N : Int) - 57 = ((N - 57 : Nat) : Int) by omega] at this ⊢
    exact this
  have h1 : (N : Int) ≤ 67108864 := by omega
  have h2 : (256 : Int) ≤ (N : Int) := by omega
  clear h hN hhi hlow
  go_enter Tryd.func19, Tryd.ntmps19
  go_wp2_with (go_at_call 36; refine Hsz.out.mono ?_; rintro e w1 ⟨rfl, rfl⟩)
  go_ret2
  exact ⟨rfl, Hs.out, (Below.refl _ w).alloc (Nat.le_refl _) _⟩

theorem format_any (pw nv N n : Nat) (m : List UInt8) (O : Nat → Option Tag) (w : World) (h : SysAt w O pw (Pk n) nv ⟨m, [], 0⟩) (hN : m.length = N) (hlow : 256 ≤ N) (h0 : byteAt m 0 = 0) (hn : n ≤ 1000000) :
    Calls Tryd.prog 8 #[.pointer (some ⟨nv, 0, none⟩)] w fun e w' => ∃ lb, e = .returned (.tuple #[.pointer (some ⟨lb, 0, none⟩), .nilIface]) ∧ w.heap.size ≤ lb ∧ ∃ M', LG w' M' pw nv lb (Pk (n + 4)) N ⟨1, 1, 0, 0⟩ [] ∧ Kept (fun x => O x = none) w w' ∧ ∀ x, x < w.heap.size → M' x → O x ≠ none := by
  have Hon := Lib.hid (on_any pw nv N _ _ O w h hN hlow)
  have Hset : Hid (∀ w1, LogNew w1 w.heap.size nv (N - 57) → Below w.heap.size w w1 → Calls Tryd.prog 20 #[.pointer (some ⟨w.heap.size, 0, none⟩), .agg #[.int .u64 1, .int .u64 1, .int .i64 0, .int .i64 0]] w1 fun e w' => e = .returned .nilIface ∧ ∃ lb, Ending.returned (.tuple #[.pointer (some ⟨w.heap.size, 0, none⟩), .nilIface]) = .returned (.tuple #[.pointer (some ⟨lb, 0, none⟩), .nilIface]) ∧ w.heap.size ≤ lb ∧ ∃ M', LG w' M' pw nv lb (Pk (n + 4)) N ⟨1, 1, 0, 0⟩ [] ∧ Kept (fun x => O x = none) w w' ∧ ∀ x, x < w.heap.size → M' x → O x ≠ none) := by
    intro w1 hl hb
    have hhi : m.length ≤ 67108864 := h.ok.high
    have hbd : BdOk ⟨1, 1, 0, 0⟩ := ⟨by decide, by decide, by decide, by decide⟩
    have hsl := slotL_length ⟨1, 1, 0, 0⟩ (by decide) (by decide) (by decide) (by decide)
    have hfree : O w.heap.size = none := h.free (Nat.le_refl _)
    refine (settle_log pw nv w.heap.size (N - 57) n 0 ⟨m, [], 0⟩ O ⟨1, 1, 0, 0⟩ w1 (h.below hb) ⟨_, _, _, _, hl⟩ hfree (.inl rfl) h0 hbd (by show 256 ≤ m.length; omega) (Nat.zero_le _) hn).mono ?_
    rintro e w' ⟨he, O', s1, s2, s3⟩
    have hh : Holds (settled m 0 ⟨1, 1, 0, 0⟩) ⟨1, 1, 0, 0⟩ [] := settled_holds (by omega) hhi hsl rfl (by show 1 ≤ _; omega) (by show 0 < _; omega) (Nat.zero_le _) rfl
    have hlen := settled_length m 0 ⟨1, 1, 0, 0⟩ (by omega) hsl
    refine ⟨he, _, rfl, Nat.le_refl _, fun x => O' x ≠ none ∨ x = w.heap.size, ⟨O', _, s1, (s2.2 _ hl.lt).trans hfree, s3.logC, hlen.trans hN, hh, fun _ => Iff.rfl⟩, ?_, fun x hx q => ?_⟩
    · have k1 := Below.kept hb (fun x => O x = none)
      exact ⟨s2.1.os.trans k1.os, s2.1.tape.trans k1.tape, s2.1.output.trans k1.output, Nat.le_trans k1.size s2.1.size, fun x hx q => (s2.1.block x (Nat.lt_of_lt_of_le hx hb.size) ⟨q, by omega⟩).trans (k1.block x hx q)⟩
    · rcases q with q | q
      · rw [s2.2 x (Nat.lt_of_lt_of_le hx hb.size)] at q; exact q
      · omega
  clear h hN hlow h0
  go_enter Tryd.func8, Tryd.ntmps8
  go_wp2_with fail
  refine Hon.out.mono ?_
  rintro e w1 ⟨rfl, q1, q2⟩
  have Hs1 := Lib.hid (Hset.out w1 q1 q2)
  clear q1 q2
  go_wp2_with fail
  refine Hs1.out.mono ?_
  rintro e w2 ⟨rfl, hq⟩
  have Hq := Lib.hid hq
  clear hq
  go_wp2_with fail
  go_ret2
  exact Hq.out
end
end Go.Proofs.YtkjogkmdldplgaaDoor

/-
  The first record is dropped.
-/
namespace Go.Proofs.YtkjogkmdldplgaaDoor
open Go.RowKit

theorem settle_holds_of {m : List UInt8} {b0 : Bd} {rs0 : List (List UInt8)} (h : Holds m b0 rs0) : ∃ t, (t = 0 ∨ t = 1 ∨ t = 2) ∧ byteAt m 0 = UInt8.ofNat t := by
  obtain ⟨t, ht, hb, _⟩ := h.turn
  exact ⟨t, by omega, hb⟩
theorem trunc_end (b : Bd) (r : List UInt8) (rs : List (List UInt8)) (j R : Nat) (hj : j ≤ (r :: rs).length) (h1 : j = (r :: rs).length ∨ b.first < b.first + j) (h2 : ∀ i, i < j → b.first + i ≤ b.first) : j = 1 := by
  rcases Nat.eq_zero_or_pos j with h0 | h0
  · subst h0
    rcases h1 with h1 | h1
    · simp at h1
    · omega
  · have := h2 (j - 1) (by omega)
    omega
section
set_option maxRecDepth 20000
set_option maxHeartbeats 4000000
theorem LG.truncate {w : World} {M : Nat → Prop} {pw nv lb N n : Nat} {b : Bd} {r : List UInt8} {rs : List (List UInt8)} (h : LG w M pw nv lb (Pk n) N b (r :: rs)) (hn : n ≤ 1000000) :
    Calls Tryd.prog 11 #[.pointer (some ⟨lb, 0, none⟩), .int .u64 (b.first : Int)] w fun e w' => e = .returned (.int .i64 0) ∧ ∃ M', LG w' M' pw nv lb (Pk (n + 4)) N (shorterB b (encR r).length (N - 57)) rs ∧ ExtM w M w' M' := by
  obtain ⟨O, m, h1, h2, h3, h4, h5, h6⟩ := h
  obtain ⟨t, ht, hb0⟩ := settle_holds_of h5
  have hR0 : 0 < N - 57 := by have := h5.low; omega
  have hi : InRing m (N - 57) b (r :: rs) := by have := h5.inRing; rw [h4] at this; exact this
  have hit := hi.tail
  have hok := h5.ok
  have hokt : BdOk (shorterB b (encR r).length (N - 57)) := hit.ok (by have := h5.high; omega)
  have Hl : Hid (Calls Tryd.prog 22 #[.pointer (some ⟨lb, 0, none⟩)] w (LookPost w lb nv (N - 57) b (.agg #[.int .u64 (b.first : Int), .int .u64 (b.next : Int), .int .i64 (b.at_ : Int), .int .i64 (b.used : Int)]))) := look_any pw nv lb (N - 57) _ _ O b _ w h1 rfl h3 (by rw [← h4]) h5
  have Hw : Hid (∀ w1 w2, LogK w1 lb nv (N - 57) b → Kept (fun x => x ≠ lb) w w1 → Below w1.heap.size w1 w2 → Calls Tryd.prog 24 #[.pointer (some ⟨lb, 0, none⟩), .agg #[.int .u64 (b.first : Int), .int .u64 (b.next : Int), .int .i64 (b.at_ : Int), .int .i64 (b.used : Int)], .int .u64 (b.first : Int), .func (.func 23) #[] #[]] w2 fun e w3 => e = .returned (.tuple #[.agg #[.int .u64 ((shorterB b (encR r).length (N - 57)).first : Int), .int .u64 ((shorterB b (encR r).length (N - 57)).next : Int), .int .i64 ((shorterB b (encR r).length (N - 57)).at_ : Int), .int .i64 ((shorterB b (encR r).length (N - 57)).used : Int)], .nilIface]) ∧
      ∀ w4, Below w3.heap.size w3 w4 → Calls Tryd.prog 20 #[.pointer (some ⟨lb, 0, none⟩), .agg #[.int .u64 ((shorterB b (encR r).length (N - 57)).first : Int), .int .u64 ((shorterB b (encR r).length (N - 57)).next : Int), .int .i64 ((shorterB b (encR r).length (N - 57)).at_ : Int), .int .i64 ((shorterB b (encR r).length (N - 57)).used : Int)]] w4 fun e w5 => e = .returned .nilIface ∧
        ∀ w6, Below w5.heap.size w5 w6 → ∃ M', LG w6 M' pw nv lb (Pk (n + 4)) N (shorterB b (encR r).length (N - 57)) rs ∧ ExtM w M w6 M') := by
    intro w1 w2 k1 k2 k3
    have s1 : SysAt w1 O pw (Pk n) nv ⟨m, [], 0⟩ := h1.kept (k2.mono fun x _ q e => q (e ▸ h2))
    have l2 : LogC w2 lb nv (N - 57) := k1.logC.move (k3.block lb k1.logC.lt)
    refine (walk_pass pw nv lb (N - 57) b.first _ _ O b (r :: rs) w2 (s1.below k3) rfl l2 (by rw [← h4]) hR0 hi (by have := hok.first; have := hok.next; omega)).mono ?_
    rintro e w3 ⟨j, hj, j1, j2, rfl, _, hb3⟩
    obtain rfl := trunc_end b r rs j (N - 57) hj j1 j2
    refine ⟨rfl, fun w4 hb4 => ?_⟩
    have kb : Below w2.heap.size w2 w4 := hb3.trans (hb4.mono hb3.size)
    have s4 := (s1.below k3).below kb
    have l4 := l2.move (kb.block lb l2.lt)
    have hhi := h5.high
    have hsl := slotL_length (shorterB b (encR r).length (N - 57)) (by have := hokt.first; have := hokt.next; omega) hokt.next hokt.at_ hokt.used
    refine (settle_log pw nv lb (N - 57) n t ⟨m, [], 0⟩ O (shorterB b (encR r).length (N - 57)) w4 s4 l4 h2 ht hb0 hokt (by have := h5.low; exact this) (Nat.zero_le _) hn).mono ?_
    rintro e w5 ⟨he, O', t1, t2, t3⟩
    refine ⟨he, fun w6 hb6 => ?_⟩
    have kx : ExtL lb w O w4 O := ⟨(k2.mono fun x _ q => q.2).trans ((Below.kept k3 _).trans (Below.kept kb _)), fun _ _ => rfl⟩
    have kx6 : ExtL lb w5 O' w6 O' := ⟨Below.kept hb6 _, fun _ _ => rfl⟩
    have hh : Holds (settled m t (shorterB b (encR r).length (N - 57))) (shorterB b (encR r).length (N - 57)) rs := settled_holds h5.low h5.high hsl hit.cnt hokt.next (by rw [h4]; exact hit.at_) (by rw [h4]; exact hit.used) (by rw [h4]; exact hit.ring)
    exact LG.of_ext h3 h6 h2 (kx.trans (t2.trans kx6)) (t1.below hb6) (t3.logC.move (hb6.block lb t3.logC.lt)) ((settled_length m t _ h5.low hsl).trans h4) hh
  have hfn : (b.first : Int) < (b.next : Int) := by have := h5.cnt; rw [List.length_cons] at this; omega
  generalize shorterB b (encR r).length (N - 57) = b2 at *
  clear h1 h2 h3 h4 h5 h6 ht hb0 hR0 hi hit hok hokt
  go_enter Tryd.func11, Tryd.ntmps11
  go_wp2_with fail
  refine Hl.out.mono ?_
  rintro e w1 ⟨rfl, q1, q2⟩
  have Hw1 : Hid (∀ (o : Obj), _) := fun o => Hw.out w1 (w1.alloc o) q1 q2 ((Below.refl _ w1).alloc (Nat.le_refl _) o)
  have Hw2 := Lib.hid (Hw1.out (.cells #[.int .u64 (b.first : Int), .int .u64 (b.next : Int), .int .i64 (b.at_ : Int), .int .i64 (b.used : Int)] 62))
  clear q1 q2 Hw Hl Hw1
  go_wp2_with fail
  refine Hw2.out.mono ?_
  rintro e w3 ⟨rfl, hs⟩
  have Hs := Lib.hid (hs (w3.alloc (.cells #[.int .u64 (b2.first : Int), .int .u64 (b2.next : Int), .int .i64 (b2.at_ : Int), .int .i64 (b2.used : Int)] 62)) ((Below.refl _ w3).alloc (Nat.le_refl _) _))
  clear hs Hw2
  go_wp2_with fail
  refine Hs.out.mono ?_
  rintro e w5 ⟨rfl, hf⟩
  have Hf := Lib.hid hf
  clear hf Hs
  go_wp2_with fail
  refine (errno_nil w5).mono ?_
  rintro e w6 ⟨rfl, hb6⟩
  have Hq := Lib.hid (Hf.out w6 hb6)
  clear hb6 Hf
  go_wp2_with fail
  go_ret
  exact ⟨rfl, Hq.out⟩
end
end Go.Proofs.YtkjogkmdldplgaaDoor

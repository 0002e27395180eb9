/-
  NvramPlays: the acts' steps between the parts of a round; the round's end.
-/
import Derived.Test.YtoeeppecinjiiaaNv22
namespace Go.Proofs.Ytoeeppecinjiiaa
open Go.RowKit

set_option maxRecDepth 20000
section
variable {w0 w W Wb : World} {bx pw nv rd N k want : Nat} {off : Bool} {armed : Nat} {picks : List Int} {x : PAct} {P : Pow} {D : Dev} {R : Ref}
theorem wrP_writes (P : Pow) (N : Nat) (a : Int) (ls : List (List UInt8)) : (wrP P N a ls).writes ≤ P.writes + 1 := by
  have := writeP_writes P
  unfold wrP
  split
  · omega
  · split <;> omega
theorem cut_pending (D : Dev) (l : List Int) : (D.cut l).pending = 0 := rfl
theorem writeD_pending (P : Pow) (D : Dev) : (writeD P D).pending ≤ D.pending := by
  unfold writeD
  split
  · omega
  · split
    · rw [cut_pending]; omega
    · omega
theorem MidX.write (h : MidX w0 Wb bx pw nv rd N k x want off armed picks w) (hop : x.op = 1) (hk : k ≤ 300) {A1 : Option Addr} {c1 : Nat} (hr : RB w0 w0.heap.size A1 x.bytes) (hc : x.bytes.length ≤ c1) (hx : x.bytes.length ≤ 5000) (hpl : x.place ≤ 9223372036854775807) (q : Nat) :
    Calls Try.prog 12 #[.pointer (some ⟨nv, 0, none⟩), .int .i64 x.place, .slice (some ⟨w.heap.size, 0, none⟩) 2 2] ((w.drewN q).alloc (.cells #[.slice A1 (x.bytes.length / 2) c1, .slice (cutAt A1 c1 (x.bytes.length / 2)) (x.bytes.length - x.bytes.length / 2) (c1 - x.bytes.length / 2)] 35)) fun e w' => e = .returned (.int .i64 (want : Int)) ∧
      Aft w0 Wb bx pw nv rd N k want (fun R => R.write x.place.toNat x.bytes) off armed picks w' ∧ (want = 0 → hasB N x.place (x.bytes.length : Int) = true) := by
  obtain ⟨P, D, R, h1, h2, h3, h4, h5, h6, h7, q1, _, _⟩ := h
  obtain ⟨e1, e2, e3, e4⟩ := q1 hop
  have el1 : (x.bytes.take (x.bytes.length / 2)).length = x.bytes.length / 2 := by rw [List.length_take]; omega
  have el2 : (x.bytes.drop (x.bytes.length / 2)).length = x.bytes.length - x.bytes.length / 2 := by rw [List.length_drop]
  have hrun := (h1.drewN q).write2 (c := c1) (e := c1 - x.bytes.length / 2) x.place (hr.take (x.bytes.length / 2)) (hr.cut (k := x.bytes.length / 2) hc) (by rw [el1, el2]; omega) (by omega) h7 hpl
  rw [el1, el2] at hrun
  refine hrun.mono fun e w' ⟨he, g⟩ => ⟨?_, ⟨_, _, _, g, ?_, ?_, h3, h4, ?_, ?_, fun q => ?_, fun q => ?_⟩, fun q => (e3 q).1⟩
  · rw [h2] at he
    rw [he]
    show Ending.returned (.int .i64 ((wrCode P N x.place (halves x.bytes) : Nat) : Int)) = _
    rw [e1]
  · rw [h2]; exact e2
  · have hok := g.st
    obtain ⟨O, Q, s1, _⟩ := hok
    by_cases hw : want = 0
    · have := (e3 hw).2.size
      show (wrD P D x.place (halves x.bytes)).mem.length = N
      rw [this]; exact h3
    · have := (e4 hw).size
      show (wrD P D x.place (halves x.bytes)).mem.length = N
      rw [this]; exact h3
  · have := wrP_writes P D.mem.length x.place [x.bytes.take (x.bytes.length / 2), x.bytes.drop (x.bytes.length / 2)]
    omega
  · show (wrD P D x.place (halves x.bytes)).pending ≤ _
    by_cases hw : want = 0
    · rw [(e3 hw).2.count]
      show (R.l ++ putsOf _ x.bytes).length ≤ _
      rw [List.length_append, putsOf_length]; omega
    · rw [(e4 hw).count]; omega
  · exact (e3 q).2
  · exact e4 q
theorem Aft.rwrite (h : Aft w0 Wb bx pw nv rd N k 0 (fun R => R.write x.place.toNat x.bytes) off armed picks w) (hf : hasB N x.place (x.bytes.length : Int) = true) (hk : k ≤ 300) {A1 : Option Addr} {c1 : Nat} (hr : RB w0 w0.heap.size A1 x.bytes) (hx : x.bytes.length ≤ 5000) :
    Calls Try.prog 13 #[.pointer (some ⟨rd, 0, none⟩), .int .i64 x.place, .slice A1 x.bytes.length c1] w fun e w' => e = .returned (.tuple #[]) ∧ PlX w0 Wb bx pw nv rd N (k + 1) off armed picks w' := by
  obtain ⟨P, D, R, h1, h2, h3, h4, h5, h6, h7, h8, _⟩ := h
  obtain ⟨b1, b2, b3⟩ := of_decide_eq_true hf
  obtain ⟨a, ha⟩ : ∃ a : Nat, x.place = (a : Int) := ⟨x.place.toNat, by omega⟩
  have h8' := h8 rfl
  rw [ha] at h8' b3 ⊢
  exact (h1.rwrite a hr (by omega) (by omega)).mono fun e w' ⟨he, g⟩ => ⟨he, P, D, _, g, h8', h2, h3, h6, h7⟩
theorem Aft.plx {f : Ref → Ref} (h : Aft w0 Wb bx pw nv rd N k want f off armed picks w) (hw : want ≠ 0) : PlX w0 Wb bx pw nv rd N (k + 1) off armed picks w := by
  obtain ⟨P, D, R, h1, h2, h3, h4, h5, h6, h7, _, h9⟩ := h
  exact ⟨P, D, R, h1, h9 hw, h2, h3, h6, h7⟩
theorem MidX.persist (h : MidX w0 Wb bx pw nv rd N k x want off armed picks w) (hop : x.op = 2) (hk : k ≤ 300) :
    Calls Try.prog 14 #[.pointer (some ⟨nv, 0, none⟩)] w fun e w' => e = .returned (.int .i64 (want : Int)) ∧ Aft w0 Wb bx pw nv rd N k want Ref.persist off armed picks w' := by
  obtain ⟨P, D, R, h1, h2, h3, h4, h5, h6, h7, _, q1, _⟩ := h
  obtain ⟨e1, e2, e3, e4⟩ := q1 hop
  refine (h1.persistAny (by omega) (by omega) h7).mono fun e w' ⟨he, g⟩ => ⟨?_, _, _, _, g, e2, ?_, h3, h4, ?_, ?_, e3, e4⟩
  · rw [he, e1]
  · by_cases hw : want = 0
    · rw [(e3 hw).size]
      show (lay R.kept R.l).length = N
      rw [lay_length, h3]
    · rw [(e4 hw).size, h3]
  · have := writeP_writes P
    show (writeP P).writes ≤ _
    omega
  · by_cases hw : want = 0
    · rw [(e3 hw).count]
      exact Nat.zero_le _
    · rw [(e4 hw).count]; omega
theorem Aft.rpersist (h : Aft w0 Wb bx pw nv rd N k 0 Ref.persist off armed picks w) (hk : k ≤ 300) :
    Calls Try.prog 15 #[.pointer (some ⟨rd, 0, none⟩)] w fun e w' => e = .returned (.tuple #[]) ∧ PlX w0 Wb bx pw nv rd N (k + 1) off armed picks w' := by
  obtain ⟨P, D, R, h1, h2, h3, h4, h5, h6, h7, h8, _⟩ := h
  exact (h1.rpersist (by omega)).mono fun e w' ⟨he, g⟩ => ⟨he, P, D, _, g, h8 rfl, h2, h3, h6, h7⟩
theorem PlX.cut (h : PlX w0 Wb bx pw nv rd N k off armed picks w) (hk : k ≤ 300) {A : Option Addr} {l : List Int} {c : Nat} (hr : RI w0 w0.heap.size A l) (hl : l.length ≤ 1048576) :
    Calls Try.prog 16 #[.pointer (some ⟨nv, 0, none⟩), .slice A l.length c] w fun e w' => e = .returned (.tuple #[]) ∧ (∀ (i : Nat) (v : Value), Wb.cell? ⟨bx, i, none⟩ = some v → w'.cell? ⟨bx, i, none⟩ = some v) ∧
      Calls Try.prog 11 #[.pointer (some ⟨rd, 0, none⟩), .slice A l.length c] w' fun e w' => e = .returned (.tuple #[]) ∧ PlX w0 Wb bx pw nv rd N (k + 1) off armed picks w' := by
  obtain ⟨P, D, R, h1, h2, h3, h4, h5, h6⟩ := h
  have hcnt := h2.count
  refine (h1.cutArg hr (by omega) hl).mono fun e w' ⟨he, g⟩ => ⟨he, fun i v hv => g.cellx hv, ?_⟩
  refine (g.rcutArg hr (by omega) hl).mono fun e w2 ⟨he, g2⟩ => ⟨he, P, _, _, g2, h2.cut l, h3, ?_, by omega, by rw [cut_pending]; omega⟩
  rw [(h2.cut l).size]
  show (lay R.kept _).length = N
  rw [lay_length, ← h2.size, h4]
theorem PlX.arm (h : PlX w0 Wb bx pw nv rd N k off armed picks w) (n : Int) {A : Option Addr} {l : List Int} {c : Nat} (hr : RI w0 w0.heap.size A l) (hl : l.length ≤ 1048576) :
    Calls Try.prog 17 #[.pointer (some ⟨pw, 0, none⟩), .int .i64 n, .slice A l.length c] w fun e w' => e = .returned (.tuple #[]) ∧ PlX w0 Wb bx pw nv rd N (k + 1) off (max n 1).toNat l w' := by
  obtain ⟨P, D, R, h1, h2, h3, h4, h5, h6⟩ := h
  exact (h1.arm n hr hl).mono fun e w' ⟨he, g⟩ => ⟨he, _, D, R, g, h2, h3.arm n l, h4, by show P.writes ≤ _; omega, by omega⟩
theorem PlX.on (h : PlX w0 Wb bx pw nv rd N k off armed picks w) :
    Calls Try.prog 18 #[.pointer (some ⟨pw, 0, none⟩)] w fun e w' => e = .returned (.tuple #[]) ∧ PlX w0 Wb bx pw nv rd N (k + 1) false armed picks w' := by
  obtain ⟨P, D, R, h1, h2, h3, h4, h5, h6⟩ := h
  exact h1.on.mono fun e w' ⟨he, g⟩ => ⟨he, _, D, R, g, h2, h3.on, h4, by show P.writes ≤ _; omega, by omega⟩

theorem slice_mid (A : Option Addr) (L c a s m : Nat) (hs : s = a + m) (hc : a + m ≤ c) (W : World) :
    (Instr.slice 35 (.slice A L c) (some (.int .i64 (a : Int))) (some (.int .i64 (s : Int))) none).run Try.prog W = .ok (.slice (cutAt A c a) m (c - a)) W := by
  have he : Try.prog.elem 35 = 5 := by simp [Program.elem, Try.underlying35]
  have hz : ∀ w, (Go.sizeOf 5).run Try.prog w = .ok 1 w := fun w => by kernel_rfl
  rw [run_slice_lh W 35 _ _ _ (by rw [he]; exact Try.underlying35) .i64 .i64 _ _ (by omega) (by omega) (by omega), he, hz]
  have e : s - a = m := by omega
  simp [Result.andThen, sliced, cutAt, e]
theorem cutAt_zero (A : Option Addr) (c : Nat) : cutAt A c 0 = A := by
  unfold cutAt
  rcases A with _ | a <;> simp [Addr.add]

/-- what the round's end asks of the power and of both devices -/
theorem Pl.look (h : Pl w0 pw nv rd N k off armed picks w) :
    ∃ (pn : Nat) (Al : Option Addr) (cl : Nat), w.cell? ⟨rd, 1, none⟩ = some (.slice Al pn cl) ∧ (∀ q, Calls Try.prog 20 #[.pointer (some ⟨nv, 0, none⟩)] (w.drewN q) fun e w' => e = .returned (.int .i64 (pn : Int)) ∧ w' = w.drewN q) ∧ ∀ q, Calls Try.prog 19 #[.pointer (some ⟨pw, 0, none⟩)] (w.drewN q) fun e w' => e = .returned (.bool off) ∧ w' = w.drewN q := by
  obtain ⟨P, D, R, h1, h2, h3, h4, h5, h6⟩ := h
  obtain ⟨O, Q, s1, s2, _⟩ := h1.st
  obtain ⟨kv, lv, cc, t, k1, k2, l1, l2⟩ := s2.cells
  obtain ⟨Al, cl, rfl, _⟩ := ownsRow_rd l1
  refine ⟨R.l.length, Al, cl, cc.cell (i := 1) rfl, fun q => ?_, fun q => ?_⟩
  · rw [← h2.count]
    exact (h1.drewN q).pending.mono fun _ _ ⟨a, b⟩ => ⟨a, b.symm⟩
  · rw [← h3.off_]
    exact (h1.drewN q).off.mono fun _ _ ⟨a, b⟩ => ⟨a, b.symm⟩
theorem Pl.drewN (h : Pl w0 pw nv rd N k off armed picks w) (q : Nat) : Pl w0 pw nv rd N k off armed picks (w.drewN q) := by
  obtain ⟨P, D, R, h1, h2⟩ := h
  exact ⟨P, D, R, h1.drewN q, h2⟩
/-- all bytes, on both sides -/
theorem Pl.readOff (h : Pl w0 pw nv rd N k true armed picks w) (at_ n : Int) (ha : at_ ≤ 9223372036854775807) :
    Calls Try.prog 21 #[.pointer (some ⟨nv, 0, none⟩), .int .i64 at_, .int .i64 n] w fun e w' => ∃ A m c, e = .returned (.tuple #[.slice A m c, .int .i64 8]) ∧ Pl w0 pw nv rd N k true armed picks w' := by
  obtain ⟨P, D, R, h1, h2, h3, h4, h5, h6⟩ := h
  have e8 : readCode P D.mem.length at_ n = 8 := by unfold readCode; rw [h3.off_]; rfl
  refine (h1.readAny at_ n ha).mono fun e w' ⟨A, c, he, _, _, _, g⟩ => ⟨A, (readBytes P D.mem at_ n).length, c, by rw [he, e8]; rfl, P, D, R, g, h2, h3, h4, h5, h6⟩
theorem Pl.readBad (h : Pl w0 pw nv rd N k false armed picks w) (at_ n : Int) (ha : at_ ≤ 9223372036854775807) (hf : hasB N at_ n = false) :
    Calls Try.prog 21 #[.pointer (some ⟨nv, 0, none⟩), .int .i64 at_, .int .i64 n] w fun e w' => ∃ A c, e = .returned (.tuple #[.slice A 0 c, .int .i64 1]) ∧ Pl w0 pw nv rd N k false armed picks w' := by
  obtain ⟨P, D, R, h1, h2, h3, h4, h5, h6⟩ := h
  have e1 : readCode P D.mem.length at_ n = 1 := by unfold readCode; rw [h3.off_, h4, hf]; rfl
  have e2 : readBytes P D.mem at_ n = [] := by unfold readBytes; rw [e1]; rfl
  refine (h1.readAny at_ n ha).mono fun e w' ⟨A, c, he, _, _, _, g⟩ => ⟨A, c, by rw [he, e1, e2]; rfl, P, D, R, g, h2, h3, h4, h5, h6⟩
theorem Pl.readOk (h : Pl w0 pw nv rd N k false armed picks w) (a m : Nat) (hf : a + m ≤ N) (hN : N ≤ 4096) (hk : k ≤ 301) :
    Calls Try.prog 21 #[.pointer (some ⟨nv, 0, none⟩), .int .i64 (a : Int), .int .i64 (m : Int)] w fun e w' => ∃ A c, e = .returned (.tuple #[.slice A m c, .int .i64 0]) ∧ Pl w0 pw nv rd N k false armed picks w' ∧
      ∃ X : ByteArray, (∀ q, (convert 35 9 (.slice A m c)).run Try.prog (w'.drewN q) = .ok (.string X) (w'.drewN q)) ∧
        ∀ q, Calls Try.prog 22 #[.pointer (some ⟨rd, 0, none⟩)] (w'.drewN q) fun e w2 => ∃ A' c', e = .returned (.slice A' N c') ∧ N ≤ c' ∧ (convert 35 9 (.slice A m c)).run Try.prog w2 = .ok (.string X) w2 ∧
          (convert 35 9 (.slice (cutAt A' c' a) m (c' - a))).run Try.prog w2 = .ok (.string X) w2 ∧ Pl w0 pw nv rd N k false armed picks w2 := by
  obtain ⟨P, D, R, h1, h2, h3, h4, h5, h6⟩ := h
  have hcnt := h2.count
  have hh : hasB N (a : Int) (m : Int) = true := decide_eq_true ⟨by omega, by omega, by omega⟩
  have e1 : readCode P D.mem.length (a : Int) (m : Int) = 0 := by unfold readCode; rw [h3.off_, h4, hh]; rfl
  have e2 : readBytes P D.mem (a : Int) (m : Int) = (D.mem.drop a).take m := by unfold readBytes; rw [e1]; rfl
  have hl : ((D.mem.drop a).take m).length = m := by rw [List.length_take, List.length_drop]; omega
  have hal : R.all = D.mem := h2.all.symm
  refine (h1.readAny (a : Int) (m : Int) (by omega)).mono fun e w' ⟨A, c, he, hr, _, _, g⟩ => ⟨A, c, by rw [he, e1, e2, hl]; rfl, ⟨P, D, R, g, h2, h3, h4, h5, h6⟩, ⟨((D.mem.drop a).take m).toArray⟩, fun q => ?_, fun q => ?_⟩
  · rw [e2] at hr
    have := text_run (w'.drewN q) _ A _ c (hr.drewN q)
    rwa [hl] at this
  · rw [e2] at hr
    refine ((g.drewN q).all (by omega)).mono fun e w2 ⟨A', c', he', hr', hc', hb, g2⟩ => ⟨A', c', by rw [he', hal, h4], by rw [← h4, ← hal]; exact hc', ?_, ?_, P, D, R, g2, h2, h3, h4, h5, h6⟩
    · have := text_run w2 _ A _ c ((hr.drewN q).below hb)
      rwa [hl] at this
    · have hr2 := (hr'.cut (k := a) hc').take m
      rw [hal] at hr2
      have := text_run w2 _ _ _ (c' - a) hr2
      rwa [hl] at this
theorem Pl.readAll (h : Pl w0 pw nv rd N k false armed picks w) (hN : N ≤ 4096) (hk : k ≤ 301) :
    Calls Try.prog 21 #[.pointer (some ⟨nv, 0, none⟩), .int .i64 0, .int .i64 (N : Int)] w fun e w' => ∃ A c, e = .returned (.tuple #[.slice A N c, .int .i64 0]) ∧ Pl w0 pw nv rd N k false armed picks w' ∧
      ∃ X : ByteArray, (∀ q, (convert 35 9 (.slice A N c)).run Try.prog (w'.drewN q) = .ok (.string X) (w'.drewN q)) ∧
        ∀ q, Calls Try.prog 22 #[.pointer (some ⟨rd, 0, none⟩)] (w'.drewN q) fun e w2 => ∃ A' c', e = .returned (.slice A' N c') ∧ N ≤ c' ∧ (convert 35 9 (.slice A N c)).run Try.prog w2 = .ok (.string X) w2 ∧
          (convert 35 9 (.slice A' N c')).run Try.prog w2 = .ok (.string X) w2 ∧ Pl w0 pw nv rd N k false armed picks w2 :=
  (h.readOk 0 N (by omega) hN hk).mono fun e w' ⟨A, c, he, hp, X, hx, ha⟩ => ⟨A, c, he, hp, X, hx, fun q => (ha q).mono fun e w2 ⟨A', c', q1, q2, q3, q4, q5⟩ => ⟨A', c', q1, q2, q3, by rw [cutAt_zero] at q4; exact q4, q5⟩⟩
theorem Pl.fits (h : Pl w0 pw nv rd N k off armed picks w) (at_ m : Int) : Calls Try.prog 10 #[.pointer (some ⟨rd, 0, none⟩), .int .i64 at_, .int .i64 m] w fun e w' => e = .returned (.bool (hasB N at_ m)) ∧ w = w' := by
  obtain ⟨P, D, R, h1, h2, h3, h4, h5, h6⟩ := h
  rw [← h4, h2.size]
  exact h1.fits at_ m
end
end Go.Proofs.Ytoeeppecinjiiaa

/-
  Parts are written.
-/
import Derived.Test.YtkjogkmdldplgaaDoorNv4
import Derived.Test.YtkjogkmdldplgaaDoorKNv6
namespace Go.Proofs.YtkjogkmdldplgaaDoor
open Go.RowKit

structure PartsOk (w : World) (O : Nat → Option Tag) (pb : Nat) (ls : List (List UInt8)) : Prop where
  lt : pb < w.heap.size
  own : O pb = none
  at_ : ∀ (k : Nat) l, ls[k]? = some l → ∃ A c, w.cell? ⟨pb, k, none⟩ = some (.slice A l.length c) ∧ RB w w.heap.size A l ∧ (l ≠ [] → ∀ ad, A = some ad → O ad.block = none)
theorem PartsOk.step {w w' : World} {O O' : Nat → Option Tag} {pb : Nat} {ls : List (List UInt8)} (h : PartsOk w O pb ls) (hx : Ext w O w' O') : PartsOk w' O' pb ls := by
  refine ⟨Nat.lt_of_lt_of_le h.lt hx.1.size, (hx.2 pb h.lt).trans h.own, fun k l hl => ?_⟩
  obtain ⟨A, c, q1, q2, q3⟩ := h.at_ k l hl
  refine ⟨A, c, (World.cell?_of_block (w := w) (hx.1.block pb h.lt h.own)).trans q1, (q2.kept hx.1 q3 (Nat.le_refl _)).wide hx.1.size, fun hn ad e => ?_⟩
  obtain ⟨ad', e', hlt, _⟩ := q2 0 _ (List.getElem?_eq_getElem (List.length_pos_iff.2 hn))
  rw [e] at e'
  cases e'
  exact (hx.2 _ hlt).trans (q3 hn ad e)
theorem PartsOk.parts {w : World} {O : Nat → Option Tag} {pb : Nat} {ls : List (List UInt8)} (h : PartsOk w O pb ls) : PartsAt w pb ls := fun k l hl => by
  obtain ⟨A, c, q1, q2, q3⟩ := h.at_ k l hl
  refine ⟨A, c, q1, q2, fun hn ad e => ?_⟩
  obtain ⟨ad', e', hlt, _⟩ := q2 0 _ (List.getElem?_eq_getElem (List.length_pos_iff.2 hn))
  rw [e] at e'
  cases e'
  exact hlt

def Dev.putAll : Dev → Nat → List (List UInt8) → Dev
  | D, _, [] => D
  | D, at_, l :: ls => (D.put at_ l).putAll (at_ + l.length) ls
theorem Dev.putAll_snoc : ∀ (ls : List (List UInt8)) (D : Dev) (at_ : Nat) (l : List UInt8), D.putAll at_ (ls ++ [l]) = (D.putAll at_ ls).put (at_ + total ls) l
  | [], D, at_, l => by simp [Dev.putAll, total]
  | x :: ls, D, at_, l => by
    have e : total (x :: ls) = x.length + total ls := by simp [total]
    show (D.put at_ x).putAll (at_ + x.length) (ls ++ [l]) = ((D.put at_ x).putAll (at_ + x.length) ls).put _ l
    rw [Dev.putAll_snoc ls, e, Nat.add_assoc]
theorem Dev.put_length (D : Dev) (at_ : Nat) (l : List UInt8) (h : at_ + l.length ≤ D.mem.length) : (D.put at_ l).mem.length = D.mem.length ∧ (D.put at_ l).pending = D.pending + l.length := by
  unfold Dev.put
  split
  · rename_i e; subst e; exact ⟨rfl, rfl⟩
  · exact ⟨splat_length _ _ _ h, rfl⟩
theorem Dev.putAll_length : ∀ (ls : List (List UInt8)) (D : Dev) (at_ : Nat), at_ + total ls ≤ D.mem.length → (D.putAll at_ ls).mem.length = D.mem.length ∧ (D.putAll at_ ls).pending = D.pending + total ls
  | [], D, at_, _ => ⟨rfl, by simp [Dev.putAll, total]⟩
  | x :: ls, D, at_, h => by
    have e : total (x :: ls) = x.length + total ls := by simp [total]
    obtain ⟨q1, q2⟩ := D.put_length at_ x (by omega)
    obtain ⟨r1, r2⟩ := Dev.putAll_length ls (D.put at_ x) (at_ + x.length) (by rw [q1]; omega)
    exact ⟨r1.trans q1, by show ((D.put at_ x).putAll _ ls).pending = _; rw [r2, q2, e]; omega⟩

def wrCode (P : Pow) (N : Nat) (at_ : Int) (ls : List (List UInt8)) : Nat := if P.off then 8 else if fitB N at_ ls then (if writeOk P then 0 else 8) else 1
def wrP (P : Pow) (N : Nat) (at_ : Int) (ls : List (List UInt8)) : Pow := if P.off then P else if fitB N at_ ls then writeP P else P
def wrD (P : Pow) (D : Dev) (at_ : Int) (ls : List (List UInt8)) : Dev := if P.off then D else if fitB D.mem.length at_ ls then (if writeOk P then D.putAll at_.toNat ls else writeD P D) else D

set_option maxRecDepth 20000 in
set_option maxHeartbeats 2000000 in
theorem nwrite_any (pw nv : Nat) (P : Pow) (D : Dev) (O : Nat → Option Tag) (at_ : Int) (pb pc : Nat) (ls : List (List UInt8)) (w : World) (h : SysAt w O pw P nv D) (hp : PartsOk w O pb ls) (hl : ls.length ≤ 1048576) (hpd : D.pending + total ls ≤ 1099511627776) (hw : P.writes ≤ 1099511627776) (hlf : P.left ≤ 9223372036854775807) (ha : at_ ≤ 9223372036854775807) :
    Calls Tryd.prog 47 #[.pointer (some ⟨nv, 0, none⟩), .int .i64 at_, .slice (some ⟨pb, 0, none⟩) ls.length pc] w (SysPost w O pw (wrP P D.mem.length at_ ls) nv (wrD P D at_ ls) (.int .i64 (wrCode P D.mem.length at_ ls : Nat))) := by
  have k0 := h.cells.1
  obtain ⟨bb, k1⟩ := h.cells.2.1
  have Ho := Lib.hid (sysOff h)
  have Hw := Lib.hid (write_any pw nv P D O w h (by omega) hw hlf)
  have Hh := Lib.hid h
  have Hfit := Lib.hid (fit_any nv D.mem.length _ _ at_ pb pc ls w k1 h.ok.high ha hp.parts hl)
  rcases hoff : P.off with _ | _
  case true =>
    have e1 : wrCode P D.mem.length at_ ls = 8 := by unfold wrCode; rw [hoff]; rfl
    have e2 : wrD P D at_ ls = D := by unfold wrD; rw [hoff]; rfl
    have e3 : wrP P D.mem.length at_ ls = P := by unfold wrP; rw [hoff]; rfl
    have Hs : Hid (SysPost w O pw P nv D (.int .i64 8) (.returned (.int .i64 8)) w) := ⟨O, rfl, Hh.out, Ext.refl _ _⟩
    rw [e1, e2, e3]
    rw [hoff] at Ho
    have Hg : Hid (SysPost w O pw P nv D (.int .i64 ((8 : Nat) : Int)) = SysPost w O pw P nv D (.int .i64 8)) := rfl
    rw [Hg.out]
    generalize ls.length = L at *
    clear h Hw e1 e2 e3 hoff hpd hw hl hlf Hg hp Hfit k1
    go_enter Tryd.func47, Tryd.ntmps47
    go_wp2_with (go_at_call 32; refine Ho.out.mono ?_; rintro e w1 ⟨rfl, rfl⟩)
    go_ret
    exact Hs.out
  rw [hoff] at Ho
  by_cases hfit : fitB D.mem.length at_ ls = true
  case neg =>
    have hfit' : fitB D.mem.length at_ ls = false := by simpa using hfit
    have e1 : wrCode P D.mem.length at_ ls = 1 := by unfold wrCode; rw [hoff, hfit']; rfl
    have e2 : wrD P D at_ ls = D := by unfold wrD; rw [hoff, hfit']; rfl
    have e3 : wrP P D.mem.length at_ ls = P := by unfold wrP; rw [hoff, hfit']; rfl
    have Hs : Hid (SysPost w O pw P nv D (.int .i64 1) (.returned (.int .i64 1)) w) := ⟨O, rfl, Hh.out, Ext.refl _ _⟩
    rw [e1, e2, e3]
    rw [hfit'] at Hfit
    have Hg : Hid (SysPost w O pw P nv D (.int .i64 ((1 : Nat) : Int)) = SysPost w O pw P nv D (.int .i64 1)) := rfl
    rw [Hg.out]
    generalize ls.length = L at *
    clear h Hw e1 e2 e3 hoff hpd hw hl hlf Hg hp k1 hfit hfit'
    go_enter Tryd.func47, Tryd.ntmps47
    go_wp2_with (first | (go_at_call 32; refine Ho.out.mono ?_; rintro e w1 ⟨rfl, rfl⟩) | (go_at_call 58; refine Hfit.out.mono ?_; rintro e w1 ⟨rfl, rfl⟩))
    go_ret
    exact Hs.out
  rw [hfit] at Hfit
  obtain ⟨f0, f1⟩ := of_decide_eq_true hfit
  by_cases hok : writeOk P = true
  case neg =>
    have hok' : writeOk P = false := by simpa using hok
    have e1 : wrCode P D.mem.length at_ ls = 8 := by unfold wrCode; rw [hoff, hfit, hok']; rfl
    have e2 : wrD P D at_ ls = writeD P D := by unfold wrD; rw [hoff, hfit, hok']; rfl
    have e3 : wrP P D.mem.length at_ ls = writeP P := by unfold wrP; rw [hoff, hfit]; rfl
    rw [e1, e2, e3]
    rw [hok'] at Hw
    have Hg : Hid (SysPost w O pw (writeP P) nv (writeD P D) (.int .i64 ((8 : Nat) : Int)) = SysPost w O pw (writeP P) nv (writeD P D) (.int .i64 8)) := rfl
    rw [Hg.out]
    generalize ls.length = L at *
    clear h e1 e2 e3 hoff hpd hw hl hlf Hg hp k1 hfit hok hok'
    go_enter Tryd.func47, Tryd.ntmps47
    go_wp2_with (first
      | (go_at_call 32; refine Ho.out.mono ?_; rintro e w1 ⟨rfl, rfl⟩)
      | (go_at_call 58; refine Hfit.out.mono ?_; rintro e w1 ⟨rfl, rfl⟩)
      | (go_at_call 59; refine Hw.out.mono ?_; rintro e w2 ⟨rfl, ⟨O2, q1, q2⟩, _⟩; have Hq : Hid (SysPost w O pw (writeP P) nv (writeD P D) (.int .i64 8) (.returned (.int .i64 8)) w2) := ⟨O2, rfl, q1, q2⟩; clear q1 q2))
    go_ret
    exact Hq.out
  obtain ⟨a, rfl⟩ : ∃ a : Nat, at_ = (a : Int) := ⟨at_.toNat, by omega⟩
  have e1 : wrCode P D.mem.length (a : Int) ls = 0 := by unfold wrCode; rw [hoff, hfit, hok]; rfl
  have e2 : wrD P D (a : Int) ls = D.putAll a ls := by unfold wrD; rw [hoff, hfit, hok]; rfl
  have e3 : wrP P D.mem.length (a : Int) ls = writeP P := by unfold wrP; rw [hoff, hfit]; rfl
  rw [e1, e2, e3]
  rw [hok] at Hw
  have Hg : Hid (SysPost w O pw (writeP P) nv (D.putAll a ls) (.int .i64 ((0 : Nat) : Int)) = SysPost w O pw (writeP P) nv (D.putAll a ls) (.int .i64 0)) := rfl
  rw [Hg.out]
  obtain ⟨L, hL⟩ : ∃ L, L = ls.length := ⟨_, rfl⟩
  have hf1 : a + total ls ≤ D.mem.length := by omega
  have hmh := h.ok.high
  have Hput : Hid (∀ k, k < L → ∃ l, ls[k]? = some l ∧ a + total (ls.take (k + 1)) = a + total (ls.take k) + l.length ∧ a + total (ls.take (k + 1)) ≤ 67108864 ∧ ∀ wr O', SysAt wr O' pw (writeP P) nv (D.putAll a (ls.take k)) → Ext w O wr O' →
      ∃ A c, wr.cell? ⟨pb, k, none⟩ = some (.slice A l.length c) ∧ Calls Tryd.prog 60 #[.pointer (some ⟨nv, 0, none⟩), .int .i64 ((a + total (ls.take k) : Nat) : Int), .slice A l.length c] wr fun e w' => e = .returned (.tuple #[]) ∧ ∃ O'', SysAt w' O'' pw (writeP P) nv (D.putAll a (ls.take (k + 1))) ∧ Ext w O w' O'') := by
    intro k hk
    have hk' : k < ls.length := by omega
    refine ⟨ls[k], List.getElem?_eq_getElem hk', ?_, ?_, fun wr O' hs hx => ?_⟩
    · rw [total_take ls k _ (List.getElem?_eq_getElem hk'), Nat.add_assoc]
    · have := total_le ls (k + 1); omega
    obtain ⟨A, c, q1, q2, q3⟩ := (hp.step hx).at_ k _ (List.getElem?_eq_getElem hk')
    have hk0 := total_le ls k
    have hk1 := total_le ls (k + 1)
    have hk2 := total_take ls k _ (List.getElem?_eq_getElem hk')
    obtain ⟨r1, r2⟩ := D.putAll_length (ls.take k) a (by omega)
    refine ⟨A, c, q1, (put_any pw nv (a + total (ls.take k)) (writeP P) _ O' A c ls[k] wr hs q2 q3 (by rw [r1]; omega) (by rw [r2]; omega)).mono fun e w' ⟨O'', he, s1, s2⟩ => ⟨he, O'', ?_, hx.trans s2⟩⟩
    have e : ls.take (k + 1) = ls.take k ++ [ls[k]] := List.take_succ_eq_append_getElem hk'
    rw [e, Dev.putAll_snoc]
    exact s1
  have Hst : Hid (∀ w2, SysAt w2 O pw (writeP P) nv D → Kept (fun b => b ≠ pw) w w2 → ∃ O', SysAt w2 O' pw (writeP P) nv (D.putAll a (ls.take 0)) ∧ Ext w O w2 O') := by
    intro w2 q1 q2
    refine ⟨O, q1, q2.mono (fun b _ hb e => ?_), fun _ _ => rfl⟩
    obtain ⟨dv, A, c, _, h2, _⟩ := Hh.out.pow
    rw [e, h2] at hb
    cases hb
  have Hend : Hid (D.putAll a (ls.take L) = D.putAll a ls) := by show _ = _; rw [hL, List.take_length]
  have Ht0 : Hid (a + total (ls.take 0) = a) := by show _ = _; simp [total]
  have hL' : (L : Int) ≤ 1048576 := by omega
  rw [← hL] at Hfit ⊢
  clear h e1 e2 e3 hoff hpd hw hl hlf Hg hp k1 hfit hok f0 f1 hf1 hmh hL ha
  go_enter Tryd.func47, Tryd.ntmps47
  go_wp2_with (first
    | (go_at_call 32; refine Ho.out.mono ?_; rintro e w1 ⟨rfl, rfl⟩)
    | (go_at_call 58; refine Hfit.out.mono ?_; rintro e w1 ⟨rfl, rfl⟩)
    | (go_at_call 59; refine Hw.out.mono ?_; rintro e w2 ⟨rfl, _, q2⟩; obtain ⟨q3, q4⟩ := q2 (by trivial); have Hs2 := Lib.hid (Hst.out w2 q3 q4); clear q2 q3 q4))
  go_loopw [1, 27] (fun av kv wr => ∃ (k t : Nat), av = .int .i64 (t : Int) ∧ kv = .int .i64 (k : Int) ∧ k ≤ L ∧ Hid (t = a + total (ls.take k)) ∧ Hid (∃ O', SysAt wr O' pw (writeP P) nv (D.putAll a (ls.take k)) ∧ Ext w O wr O')) (fun _ kv _ => L - (intOf kv).toNat)
  case atStart => exact ⟨0, a, rfl, rfl, Nat.zero_le _, Ht0.out.symm, Hs2.out⟩
  case round =>
    obtain ⟨k, t, rfl, rfl, hk, ht, hrel⟩ := hrel
    by_cases hlt : k < L
    · obtain ⟨l, hx, h1, h2, h3⟩ := Hput.out k hlt
      obtain ⟨O1, g1, g2⟩ := hrel.out
      obtain ⟨A, c, cc, hcall⟩ := h3 wr O1 g1 g2
      rw [← ht.out] at hcall h1
      have Hc := Lib.hid hcall
      have hk' : (k : Int) < (L : Int) := by omega
      have htl : (t : Int) + (l.length : Int) ≤ 67108864 := by omega
      have Hn : Hid (t + l.length = a + total (ls.take (k + 1))) := h1.symm
      generalize l.length = m at *
      clear hcall h3 h2 h1 hx g1 g2 hlt
      go_wp2_with (go_at_call 60; refine Hc.out.mono ?_; rintro e w5 ⟨rfl, q5⟩; have Hq5 := Lib.hid q5; clear q5)
      go_roundw
      case rel => exact ⟨k + 1, t + m, by go_num, by go_num, by omega, Hn.out, Hq5.out⟩
      case measure => simp [intOf]; omega
    · obtain rfl : k = L := by omega
      have Hq : Hid (SysPost w O pw (writeP P) nv (D.putAll a ls) (.int .i64 0) (.returned (.int .i64 0)) wr) := by
        obtain ⟨O1, g1, g2⟩ := hrel.out
        rw [Hend.out] at g1
        exact ⟨O1, rfl, g1, g2⟩
      clear hlt
      go_wp2_with fail
      go_ret
      exact Hq.out
end Go.Proofs.YtkjogkmdldplgaaDoor

/-
  A write is armed; one part is written (for a seat without the second saying of the device).
-/
namespace Go.Proofs.YtkjogkmdldplgaaDoor
open Go.RowKit

def Pk (n : Nat) : Pow := ⟨false, n, 0, []⟩
theorem wr_ok (n : Nat) (D : Dev) (at_ : Int) (ls : List (List UInt8)) (hf : fitB D.mem.length at_ ls = true) : wrCode (Pk n) D.mem.length at_ ls = 0 ∧ wrP (Pk n) D.mem.length at_ ls = Pk (n + 1) ∧ wrD (Pk n) D at_ ls = D.putAll at_.toNat ls := by
  unfold wrCode wrP wrD
  rw [hf]
  exact ⟨rfl, rfl, rfl⟩
theorem per_ok (n : Nat) (D : Dev) : perCode (Pk n) = 0 ∧ perP (Pk n) = Pk (n + 1) ∧ perD (Pk n) D = D.settle := ⟨rfl, rfl, rfl⟩
/-- one part, whose bytes lie in memory that nobody owns -/
theorem PartsOk.one {w : World} {O : Nat → Option Tag} {A : Option Addr} {l : List UInt8} {c : Nat} {t : TypeId} {pw nv : Nat} {P : Pow} {D : Dev} (h : SysAt w O pw P nv D) (hr : RB w w.heap.size A l) (hA : l ≠ [] → ∀ ad, A = some ad → O ad.block = none) :
    PartsOk (w.alloc (.cells #[.slice A l.length c] t)) O w.heap.size [l] := by
  refine ⟨by simp, h.free (Nat.le_refl _), fun k x hx => ?_⟩
  match k, hx with
  | 0, hx =>
    cases hx
    exact ⟨A, c, (Cells.new w #[.slice A l.length c] t).cell (i := 0) rfl, (hr.alloc (Nat.le_refl _) _).wide (by simp), hA⟩

section
variable {w0 w w' : World} {pw nv n : Nat} {P P' : Pow} {D D' : Dev}
theorem below_ext {O O' : Nat → Option Tag} (h : Below w0.heap.size w0 w) (hx : Ext w O w' O') (ho : ∀ b, b < w0.heap.size → O b = none) : Below w0.heap.size w0 w' :=
  ⟨hx.1.os.trans h.os, hx.1.tape.trans h.tape, hx.1.output.trans h.output, Nat.le_trans h.size hx.1.size, fun b hb => (hx.1.block b (Nat.lt_of_lt_of_le hb h.size) (ho b hb)).trans (h.block b hb)⟩
theorem SysAt.more {O : Nat → Option Tag} {W : World} (h : SysAt w O pw P nv D) (hW : Kept (fun b => b < w.heap.size) w W) : SysAt W O pw P nv D := h.kept (hW.mono fun b hb _ => hb)
end
theorem arm_facts {w w1 : World} {O : Nat → Option Tag} {pw m : Nat} {P : Pow} {nv : Nat} {D : Dev} {picks : List Int} {A2 : Option Addr} {c2 : Nat} (h : SysAt w O pw P nv D) (hb : Below w.heap.size w w1)
    (hv : OwnV w1 w.heap.size 3 (.slice A2 picks.length c2) (picks.map (Value.int .i64))) (hri : RI w1 w1.heap.size A2 picks) (hc : picks.length ≤ c2) (hp : picks.length ≤ 1099511627776) :
    ∃ O', SysAt ((w1.setCell ⟨pw, 3, none⟩ (.int .i64 (m : Int))).setCell ⟨pw, 4, none⟩ (.slice A2 picks.length c2)) O' pw { P with left := m, picks := picks } nv D ∧
      Ext w O ((w1.setCell ⟨pw, 3, none⟩ (.int .i64 (m : Int))).setCell ⟨pw, 4, none⟩ (.slice A2 picks.length c2)) O' := by
  obtain ⟨dv, A, c, h1, h2, h3, h4, h5, h6, h7⟩ := h.pow
  have hpw := h1.lt
  have kb : Kept (fun _ => True) w w1 := (Kept.refl _ w).below hb
  have hk : Kept (fun b => b ≠ pw) w ((w1.setCell ⟨pw, 3, none⟩ (.int .i64 (m : Int))).setCell ⟨pw, 4, none⟩ (.slice A2 picks.length c2)) := ((kb.mono fun _ _ _ => trivial).setCell (fun h => h rfl) _).setCell (fun h => h rfl) _
  have hk1 : Kept (fun b => b ≠ pw) w1 ((w1.setCell ⟨pw, 3, none⟩ (.int .i64 (m : Int))).setCell ⟨pw, 4, none⟩ (.slice A2 picks.length c2)) := ((Kept.refl _ w1).setCell (fun h => h rfl) _).setCell (fun h => h rfl) _
  have hA2 : ∀ ad, A2 = some ad → w.heap.size ≤ ad.block ∧ ad.block < w1.heap.size := fun ad e => hv.ge ad.block (by rw [e]; rfl)
  obtain ⟨O', hO'⟩ : ∃ O' : Nat → Option Tag, O' = fun b => if b < w.heap.size then O b else if A2.map (·.block) = some b then some .picks else none := ⟨_, rfl⟩
  have o1 : ∀ b, b < w.heap.size → O' b = O b := fun b hb => by rw [hO']; simp only [if_pos hb]
  have o2 : ∀ b, w.heap.size ≤ b → O' b = if A2.map (·.block) = some b then some .picks else none := fun b hb => by rw [hO']; simp only [if_neg (show ¬ b < w.heap.size by omega)]
  clear hO'
  have hd : ∀ b t, O b = some t → t ≠ .pw → b ≠ pw := fun b t hb n e => n (by rw [e, h2] at hb; cases hb; rfl)
  have hag : Agree (fun t => t ≠ .pw) w O ((w1.setCell ⟨pw, 3, none⟩ (.int .i64 (m : Int))).setCell ⟨pw, 4, none⟩ (.slice A2 picks.length c2)) O' := fun b t hlt hb ht => ⟨hk.block b hlt (hd b t hb ht), (o1 b hlt).trans hb⟩
  refine ⟨O', ⟨fun b hb => ?_, h.dev.keep h.fresh hk.size hag (by intro e; cases e) (by intro e; cases e) (by intro e; cases e) (by intro e; cases e), h.ok, dv, A2, c2, ?_, (o1 pw hpw).trans h2, ?_, fun g hg => (o1 g (h3.ge g hg).2).trans (h4 g hg), ?_, fun ad he => ?_, hc, hp⟩, hk.mono (fun b _ hb e => by rw [e, h2] at hb; cases hb), o1⟩
  · by_cases q : b < w.heap.size
    · exact Nat.lt_of_lt_of_le q hk.size
    · rw [o2 b (by omega)] at hb
      by_cases q2 : A2.map (·.block) = some b
      · rcases A2 with _ | ad
        · cases q2
        · cases q2
          exact Nat.lt_of_lt_of_le (hA2 ad rfl).2 hk1.size
      · rw [if_neg q2] at hb; exact absurd rfl hb
  · have q1 : Cells w1 pw 59 [dv, .bool P.off, .int .i64 (P.writes : Int), .int .i64 (P.left : Int), .slice A P.picks.length c] := h1.move (kb.block pw hpw trivial)
    exact (q1.set 3 (.int .i64 (m : Int))).set 4 (.slice A2 picks.length c2)
  · exact h3.move fun g hg => hk.block g (h3.ge g hg).2 (hd g _ (h4 g hg) (by intro e; cases e))
  · exact (hri.keptN hk1 (fun _ ad he e => by have := hA2 ad he; omega) (Nat.le_refl _)).wide hk1.size
  · rw [o2 _ (hA2 ad he).1, he]
    exact if_pos rfl

def armP (P : Pow) (n : Int) (picks : List Int) : Pow := { P with left := (max n 1).toNat, picks := picks }
set_option maxRecDepth 20000 in
set_option maxHeartbeats 1000000 in
theorem arm_any (pw : Nat) (P : Pow) (nv : Nat) (D : Dev) (O : Nat → Option Tag) (n : Int) (A : Option Addr) (c : Nat) (picks : List Int) (w : World) (h : SysAt w O pw P nv D) (hr : RI w w.heap.size A picks) (hp : picks.length ≤ 1048576) :
    Calls Tryd.prog 15 #[.pointer (some ⟨pw, 0, none⟩), .int .i64 n, .slice A picks.length c] w (SysPost w O pw (armP P n picks) nv D (.tuple #[])) := by
  have Hcl := Lib.hid (cloneInts_any A c picks w w.heap.size hr (Nat.le_refl _) (by omega))
  obtain ⟨m, hm⟩ : ∃ m : Nat, m = (max n 1).toNat := ⟨_, rfl⟩
  have hmx : max n 1 = (m : Int) := by omega
  have Hfin : Hid (∀ w1 A2 c2, Below w.heap.size w w1 → OwnV w1 w.heap.size 3 (.slice A2 picks.length c2) (picks.map (Value.int .i64)) → RI w1 w1.heap.size A2 picks → picks.length ≤ c2 →
      SysPost w O pw (armP P n picks) nv D (.tuple #[]) (.returned (.tuple #[])) ((w1.setCell ⟨pw, 3, none⟩ (.int .i64 (m : Int))).setCell ⟨pw, 4, none⟩ (.slice A2 picks.length c2))) := by
    intro w1 A2 c2 hb hv hri hc
    obtain ⟨O', q1, q2⟩ := arm_facts (m := m) h hb hv hri hc (by omega)
    refine ⟨O', rfl, ?_, q2⟩
    unfold armP
    rw [← hm]
    exact q1
  obtain ⟨dv, Ap, cp, h1, _⟩ := h.pow
  have H1 := Lib.hid h1
  clear h hr hp h1
  by_cases hn1 : n < 1
  · obtain rfl : m = 1 := by omega
    have Hfin1 : Hid (∀ w1 A2 c2, Below w.heap.size w w1 → OwnV w1 w.heap.size 3 (.slice A2 picks.length c2) (picks.map (Value.int .i64)) → RI w1 w1.heap.size A2 picks → picks.length ≤ c2 →
      SysPost w O pw (armP P n picks) nv D (.tuple #[]) (.returned (.tuple #[])) ((w1.setCell ⟨pw, 3, none⟩ (.int .i64 1)).setCell ⟨pw, 4, none⟩ (.slice A2 picks.length c2))) := Hfin.out
    clear hm hmx
    go_enter Tryd.func15, Tryd.ntmps15
    go_wp2_with (go_at_call 35; refine Hcl.out.mono ?_; rintro e w1 ⟨v, rfl, hv, hb1⟩; obtain ⟨A2, c2, rfl, hc2, hri2⟩ := RI.of_own hv; have k1 : Cells w1 pw 59 _ := H1.out.move (hb1.block pw H1.out.lt); have c3 := k1.cell (i := 3) rfl; have c4 := k1.cell (i := 4) rfl; have f3 := k1.frozen 3; have f4 := k1.frozen 4; have Hp := Lib.hid (Hfin1.out w1 A2 c2 hb1 hv hri2 hc2); clear k1 hv hb1 hri2 hc2 Hcl)
    go_end0
    exact Hp.out
  · have em : (m : Int) = n := by omega
    rw [em] at Hfin
    have hn2 : 1 ≤ n := by omega
    clear hm hmx em hn1
    go_enter Tryd.func15, Tryd.ntmps15
    go_wp2_with (go_at_call 35; refine Hcl.out.mono ?_; rintro e w1 ⟨v, rfl, hv, hb1⟩; obtain ⟨A2, c2, rfl, hc2, hri2⟩ := RI.of_own hv; have k1 : Cells w1 pw 59 _ := H1.out.move (hb1.block pw H1.out.lt); have c3 := k1.cell (i := 3) rfl; have c4 := k1.cell (i := 4) rfl; have f3 := k1.frozen 3; have f4 := k1.frozen 4; have Hp := Lib.hid (Hfin.out w1 A2 c2 hb1 hv hri2 hc2); clear k1 hv hb1 hri2 hc2 Hcl)
    go_end0
    exact Hp.out
end Go.Proofs.YtkjogkmdldplgaaDoor

/-
  Parts are written.
-/
import Derived.Test.YtoeeppecinjiiaaNv4
import Derived.Test.YtoeeppecinjiiaaNv7
namespace Go.Proofs.Ytoeeppecinjiiaa
open Go.RowKit

structure PartsOk (w : World) (O : Nat → Option Tag) (pb : Nat) (ls : List (List UInt8)) : Prop where
  lt : pb < w.heap.size
  own : O pb = none
  at_ : ∀ (k : Nat) l, ls[k]? = some l → ∃ A c, w.cell? ⟨pb, k, none⟩ = some (.slice A l.length c) ∧ RB w w.heap.size A l ∧ (l ≠ [] → ∀ ad, A = some ad → O ad.block = none)
theorem PartsOk.step {w w' : World} {O O' : Nat → Option Tag} {pb : Nat} {ls : List (List UInt8)} (h : PartsOk w O pb ls) (hx : Ext w O w' O') : PartsOk w' O' pb ls := by
  refine ⟨Nat.lt_of_lt_of_le h.lt hx.1.size, (hx.2 pb h.lt).trans h.own, fun k l hl => ?_⟩
  obtain ⟨A, c, q1, q2, q3⟩ := h.at_ k l hl
  refine ⟨A, c, (World.cell?_of_block (w := w) (hx.1.block pb h.lt h.own)).trans q1, (q2.kept hx.1 q3 (Nat.le_refl _)).wide hx.1.size, fun hn ad e => ?_⟩
  obtain ⟨ad', e', hlt, _⟩ := q2 0 _ (List.getElem?_eq_getElem (List.length_pos_iff.2 hn))
  rw [e] at e'
  cases e'
  exact (hx.2 _ hlt).trans (q3 hn ad e)
theorem PartsOk.parts {w : World} {O : Nat → Option Tag} {pb : Nat} {ls : List (List UInt8)} (h : PartsOk w O pb ls) : PartsAt w pb ls := fun k l hl => by
  obtain ⟨A, c, q1, q2, q3⟩ := h.at_ k l hl
  refine ⟨A, c, q1, q2, fun hn ad e => ?_⟩
  obtain ⟨ad', e', hlt, _⟩ := q2 0 _ (List.getElem?_eq_getElem (List.length_pos_iff.2 hn))
  rw [e] at e'
  cases e'
  exact hlt

def Dev.putAll : Dev → Nat → List (List UInt8) → Dev
  | D, _, [] => D
  | D, at_, l :: ls => (D.put at_ l).putAll (at_ + l.length) ls
theorem Dev.putAll_snoc : ∀ (ls : List (List UInt8)) (D : Dev) (at_ : Nat) (l : List UInt8), D.putAll at_ (ls ++ [l]) = (D.putAll at_ ls).put (at_ + total ls) l
  | [], D, at_, l => by simp [Dev.putAll, total]
  | x :: ls, D, at_, l => by
    have e : total (x :: ls) = x.length + total ls := by simp [total]
    show (D.put at_ x).putAll (at_ + x.length) (ls ++ [l]) = ((D.put at_ x).putAll (at_ + x.length) ls).put _ l
    rw [Dev.putAll_snoc ls, e, Nat.add_assoc]
theorem Dev.put_length (D : Dev) (at_ : Nat) (l : List UInt8) (h : at_ + l.length ≤ D.mem.length) : (D.put at_ l).mem.length = D.mem.length ∧ (D.put at_ l).pending = D.pending + l.length := by
  unfold Dev.put
  split
  · rename_i e; subst e; exact ⟨rfl, rfl⟩
  · exact ⟨splat_length _ _ _ h, rfl⟩
theorem Dev.putAll_length : ∀ (ls : List (List UInt8)) (D : Dev) (at_ : Nat), at_ + total ls ≤ D.mem.length → (D.putAll at_ ls).mem.length = D.mem.length ∧ (D.putAll at_ ls).pending = D.pending + total ls
  | [], D, at_, _ => ⟨rfl, by simp [Dev.putAll, total]⟩
  | x :: ls, D, at_, h => by
    have e : total (x :: ls) = x.length + total ls := by simp [total]
    obtain ⟨q1, q2⟩ := D.put_length at_ x (by omega)
    obtain ⟨r1, r2⟩ := Dev.putAll_length ls (D.put at_ x) (at_ + x.length) (by rw [q1]; omega)
    exact ⟨r1.trans q1, by show ((D.put at_ x).putAll _ ls).pending = _; rw [r2, q2, e]; omega⟩

def wrCode (P : Pow) (N : Nat) (at_ : Int) (ls : List (List UInt8)) : Nat := if P.off then 8 else if fitB N at_ ls then (if writeOk P then 0 else 8) else 1
def wrP (P : Pow) (N : Nat) (at_ : Int) (ls : List (List UInt8)) : Pow := if P.off then P else if fitB N at_ ls then writeP P else P
def wrD (P : Pow) (D : Dev) (at_ : Int) (ls : List (List UInt8)) : Dev := if P.off then D else if fitB D.mem.length at_ ls then (if writeOk P then D.putAll at_.toNat ls else writeD P D) else D

set_option maxRecDepth 20000 in
set_option maxHeartbeats 2000000 in
theorem nwrite_any (pw nv : Nat) (P : Pow) (D : Dev) (O : Nat → Option Tag) (at_ : Int) (pb pc : Nat) (ls : List (List UInt8)) (w : World) (h : SysAt w O pw P nv D) (hp : PartsOk w O pb ls) (hl : ls.length ≤ 1048576) (hpd : D.pending + total ls ≤ 1099511627776) (hw : P.writes ≤ 1099511627776) (hlf : P.left ≤ 9223372036854775807) (ha : at_ ≤ 9223372036854775807) :
    Calls Try.prog 12 #[.pointer (some ⟨nv, 0, none⟩), .int .i64 at_, .slice (some ⟨pb, 0, none⟩) ls.length pc] w (SysPost w O pw (wrP P D.mem.length at_ ls) nv (wrD P D at_ ls) (.int .i64 (wrCode P D.mem.length at_ ls : Nat))) := by
  have k0 := h.cells.1
  obtain ⟨bb, k1⟩ := h.cells.2.1
  have Ho := Lib.hid (sysOff h)
  have Hw := Lib.hid (write_any pw nv P D O w h (by omega) hw hlf)
  have Hh := Lib.hid h
  have Hfit := Lib.hid (fit_any nv D.mem.length _ _ at_ pb pc ls w k1 h.ok.high ha hp.parts hl)
  rcases hoff : P.off with _ | _
  case true =>
    have e1 : wrCode P D.mem.length at_ ls = 8 := by unfold wrCode; rw [hoff]; rfl
    have e2 : wrD P D at_ ls = D := by unfold wrD; rw [hoff]; rfl
    have e3 : wrP P D.mem.length at_ ls = P := by unfold wrP; rw [hoff]; rfl
    have Hs : Hid (SysPost w O pw P nv D (.int .i64 8) (.returned (.int .i64 8)) w) := ⟨O, rfl, Hh.out, Ext.refl _ _⟩
    rw [e1, e2, e3]
    rw [hoff] at Ho
    have Hg : Hid (SysPost w O pw P nv D (.int .i64 ((8 : Nat) : Int)) = SysPost w O pw P nv D (.int .i64 8)) := rfl
    rw [Hg.out]
    generalize ls.length = L at *
    clear h Hw e1 e2 e3 hoff hpd hw hl hlf Hg hp Hfit k1
    go_enter Try.func12, Try.ntmps12
    go_wp2_with (go_at_call 19; refine Ho.out.mono ?_; rintro e w1 ⟨rfl, rfl⟩)
    go_ret
    exact Hs.out
  rw [hoff] at Ho
  by_cases hfit : fitB D.mem.length at_ ls = true
  case neg =>
    have hfit' : fitB D.mem.length at_ ls = false := by simpa using hfit
    have e1 : wrCode P D.mem.length at_ ls = 1 := by unfold wrCode; rw [hoff, hfit']; rfl
    have e2 : wrD P D at_ ls = D := by unfold wrD; rw [hoff, hfit']; rfl
    have e3 : wrP P D.mem.length at_ ls = P := by unfold wrP; rw [hoff, hfit']; rfl
    have Hs : Hid (SysPost w O pw P nv D (.int .i64 1) (.returned (.int .i64 1)) w) := ⟨O, rfl, Hh.out, Ext.refl _ _⟩
    rw [e1, e2, e3]
    rw [hfit'] at Hfit
    have Hg : Hid (SysPost w O pw P nv D (.int .i64 ((1 : Nat) : Int)) = SysPost w O pw P nv D (.int .i64 1)) := rfl
    rw [Hg.out]
    generalize ls.length = L at *
    clear h Hw e1 e2 e3 hoff hpd hw hl hlf Hg hp k1 hfit hfit'
    go_enter Try.func12, Try.ntmps12
    go_wp2_with (first | (go_at_call 19; refine Ho.out.mono ?_; rintro e w1 ⟨rfl, rfl⟩) | (go_at_call 26; refine Hfit.out.mono ?_; rintro e w1 ⟨rfl, rfl⟩))
    go_ret
    exact Hs.out
  rw [hfit] at Hfit
  obtain ⟨f0, f1⟩ := of_decide_eq_true hfit
  by_cases hok : writeOk P = true
  case neg =>
    have hok' : writeOk P = false := by simpa using hok
    have e1 : wrCode P D.mem.length at_ ls = 8 := by unfold wrCode; rw [hoff, hfit, hok']; rfl
    have e2 : wrD P D at_ ls = writeD P D := by unfold wrD; rw [hoff, hfit, hok']; rfl
    have e3 : wrP P D.mem.length at_ ls = writeP P := by unfold wrP; rw [hoff, hfit]; rfl
    rw [e1, e2, e3]
    rw [hok'] at Hw
    have Hg : Hid (SysPost w O pw (writeP P) nv (writeD P D) (.int .i64 ((8 : Nat) : Int)) = SysPost w O pw (writeP P) nv (writeD P D) (.int .i64 8)) := rfl
    rw [Hg.out]
    generalize ls.length = L at *
    clear h e1 e2 e3 hoff hpd hw hl hlf Hg hp k1 hfit hok hok'
    go_enter Try.func12, Try.ntmps12
    go_wp2_with (first
      | (go_at_call 19; refine Ho.out.mono ?_; rintro e w1 ⟨rfl, rfl⟩)
      | (go_at_call 26; refine Hfit.out.mono ?_; rintro e w1 ⟨rfl, rfl⟩)
      | (go_at_call 27; refine Hw.out.mono ?_; rintro e w2 ⟨rfl, ⟨O2, q1, q2⟩, _⟩; have Hq : Hid (SysPost w O pw (writeP P) nv (writeD P D) (.int .i64 8) (.returned (.int .i64 8)) w2) := ⟨O2, rfl, q1, q2⟩; clear q1 q2))
    go_ret
    exact Hq.out
  obtain ⟨a, rfl⟩ : ∃ a : Nat, at_ = (a : Int) := ⟨at_.toNat, by omega⟩
  have e1 : wrCode P D.mem.length (a : Int) ls = 0 := by unfold wrCode; rw [hoff, hfit, hok]; rfl
  have e2 : wrD P D (a : Int) ls = D.putAll a ls := by unfold wrD; rw [hoff, hfit, hok]; rfl
  have e3 : wrP P D.mem.length (a : Int) ls = writeP P := by unfold wrP; rw [hoff, hfit]; rfl
  rw [e1, e2, e3]
  rw [hok] at Hw
  have Hg : Hid (SysPost w O pw (writeP P) nv (D.putAll a ls) (.int .i64 ((0 : Nat) : Int)) = SysPost w O pw (writeP P) nv (D.putAll a ls) (.int .i64 0)) := rfl
  rw [Hg.out]
  obtain ⟨L, hL⟩ : ∃ L, L = ls.length := ⟨_, rfl⟩
  have hf1 : a + total ls ≤ D.mem.length := by omega
  have hmh := h.ok.high
  have Hput : Hid (∀ k, k < L → ∃ l, ls[k]? = some l ∧ a + total (ls.take (k + 1)) = a + total (ls.take k) + l.length ∧ a + total (ls.take (k + 1)) ≤ 67108864 ∧ ∀ wr O', SysAt wr O' pw (writeP P) nv (D.putAll a (ls.take k)) → Ext w O wr O' →
      ∃ A c, wr.cell? ⟨pb, k, none⟩ = some (.slice A l.length c) ∧ Calls Try.prog 28 #[.pointer (some ⟨nv, 0, none⟩), .int .i64 ((a + total (ls.take k) : Nat) : Int), .slice A l.length c] wr fun e w' => e = .returned (.tuple #[]) ∧ ∃ O'', SysAt w' O'' pw (writeP P) nv (D.putAll a (ls.take (k + 1))) ∧ Ext w O w' O'') := by
    intro k hk
    have hk' : k < ls.length := by omega
    refine ⟨ls[k], List.getElem?_eq_getElem hk', ?_, ?_, fun wr O' hs hx => ?_⟩
    · rw [total_take ls k _ (List.getElem?_eq_getElem hk'), Nat.add_assoc]
    · have := total_le ls (k + 1); omega
    obtain ⟨A, c, q1, q2, q3⟩ := (hp.step hx).at_ k _ (List.getElem?_eq_getElem hk')
    have hk0 := total_le ls k
    have hk1 := total_le ls (k + 1)
    have hk2 := total_take ls k _ (List.getElem?_eq_getElem hk')
    obtain ⟨r1, r2⟩ := D.putAll_length (ls.take k) a (by omega)
    refine ⟨A, c, q1, (put_any pw nv (a + total (ls.take k)) (writeP P) _ O' A c ls[k] wr hs q2 q3 (by rw [r1]; omega) (by rw [r2]; omega)).mono fun e w' ⟨O'', he, s1, s2⟩ => ⟨he, O'', ?_, hx.trans s2⟩⟩
    have e : ls.take (k + 1) = ls.take k ++ [ls[k]] := List.take_succ_eq_append_getElem hk'
    rw [e, Dev.putAll_snoc]
    exact s1
  have Hst : Hid (∀ w2, SysAt w2 O pw (writeP P) nv D → Kept (fun b => b ≠ pw) w w2 → ∃ O', SysAt w2 O' pw (writeP P) nv (D.putAll a (ls.take 0)) ∧ Ext w O w2 O') := by
    intro w2 q1 q2
    refine ⟨O, q1, q2.mono (fun b _ hb e => ?_), fun _ _ => rfl⟩
    obtain ⟨dv, A, c, _, h2, _⟩ := Hh.out.pow
    rw [e, h2] at hb
    cases hb
  have Hend : Hid (D.putAll a (ls.take L) = D.putAll a ls) := by show _ = _; rw [hL, List.take_length]
  have Ht0 : Hid (a + total (ls.take 0) = a) := by show _ = _; simp [total]
  have hL' : (L : Int) ≤ 1048576 := by omega
  rw [← hL] at Hfit ⊢
  clear h e1 e2 e3 hoff hpd hw hl hlf Hg hp k1 hfit hok f0 f1 hf1 hmh hL ha
  go_enter Try.func12, Try.ntmps12
  go_wp2_with (first
    | (go_at_call 19; refine Ho.out.mono ?_; rintro e w1 ⟨rfl, rfl⟩)
    | (go_at_call 26; refine Hfit.out.mono ?_; rintro e w1 ⟨rfl, rfl⟩)
    | (go_at_call 27; refine Hw.out.mono ?_; rintro e w2 ⟨rfl, _, q2⟩; obtain ⟨q3, q4⟩ := q2 (by trivial); have Hs2 := Lib.hid (Hst.out w2 q3 q4); clear q2 q3 q4))
  go_loopw [1, 27] (fun av kv wr => ∃ (k t : Nat), av = .int .i64 (t : Int) ∧ kv = .int .i64 (k : Int) ∧ k ≤ L ∧ Hid (t = a + total (ls.take k)) ∧ Hid (∃ O', SysAt wr O' pw (writeP P) nv (D.putAll a (ls.take k)) ∧ Ext w O wr O')) (fun _ kv _ => L - (intOf kv).toNat)
  case atStart => exact ⟨0, a, rfl, rfl, Nat.zero_le _, Ht0.out.symm, Hs2.out⟩
  case round =>
    obtain ⟨k, t, rfl, rfl, hk, ht, hrel⟩ := hrel
    by_cases hlt : k < L
    · obtain ⟨l, hx, h1, h2, h3⟩ := Hput.out k hlt
      obtain ⟨O1, g1, g2⟩ := hrel.out
      obtain ⟨A, c, cc, hcall⟩ := h3 wr O1 g1 g2
      rw [← ht.out] at hcall h1
      have Hc := Lib.hid hcall
      have hk' : (k : Int) < (L : Int) := by omega
      have htl : (t : Int) + (l.length : Int) ≤ 67108864 := by omega
      have Hn : Hid (t + l.length = a + total (ls.take (k + 1))) := h1.symm
      generalize l.length = m at *
      clear hcall h3 h2 h1 hx g1 g2 hlt
      go_wp2_with (go_at_call 28; refine Hc.out.mono ?_; rintro e w5 ⟨rfl, q5⟩; have Hq5 := Lib.hid q5; clear q5)
      go_roundw
      case rel => exact ⟨k + 1, t + m, by go_num, by go_num, by omega, Hn.out, Hq5.out⟩
      case measure => simp [intOf]; omega
    · obtain rfl : k = L := by omega
      have Hq : Hid (SysPost w O pw (writeP P) nv (D.putAll a ls) (.int .i64 0) (.returned (.int .i64 0)) wr) := by
        obtain ⟨O1, g1, g2⟩ := hrel.out
        rw [Hend.out] at g1
        exact ⟨O1, rfl, g1, g2⟩
      clear hlt
      go_wp2_with fail
      go_ret
      exact Hq.out
end Go.Proofs.Ytoeeppecinjiiaa

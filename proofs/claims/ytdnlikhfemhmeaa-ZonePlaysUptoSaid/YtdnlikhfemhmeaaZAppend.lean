/-
  Append: a page behind a zone's last one.
-/
import Derived.Test.YtdnlikhfemhmeaaZArm
namespace Go.Proofs.Ytdnlikhfemhmeaa
open Go.RowKit

def zoneOf (D : Drv) (z : Int) : Pile := D.piles.getD z.toNat ⟨[], 0⟩
/-- does it come to the write? -/
def appGo (P : Pow) (D : Drv) (z : Int) (l : List UInt8) : Bool := decide (readyCode P.off D.lost = 0 ∧ (0 ≤ z ∧ z < (D.piles.length : Int)) ∧ l.length = D.size ∧ (zoneOf D z).pages.length < D.cap)
def appCode (P : Pow) (D : Drv) (z : Int) (l : List UInt8) : Nat :=
  if readyCode P.off D.lost ≠ 0 then readyCode P.off D.lost else if ¬ (0 ≤ z ∧ z < (D.piles.length : Int)) ∨ l.length ≠ D.size then 1 else if D.cap ≤ (zoneOf D z).pages.length then 5 else if writeOk P then 0 else 8
def appP (P : Pow) (D : Drv) (z : Int) (l : List UInt8) : Pow := if appGo P D z l then writeP P else P
def appD (P : Pow) (ds : List (Nat × Drv)) (i d : Nat) (D : Drv) (z : Int) (l : List UInt8) : List (Nat × Drv) :=
  if appGo P D z l then (if writeOk P then ds.set i (d, D.add z.toNat l) else writeD P ds) else ds

theorem Ext.of_drewN {w w' : World} {O O' : Nat → Option Tag} {q : Nat} (h : Ext (w.drewN q) O w' O') : Ext w O w' O' := ⟨⟨h.1.os, h.1.tape, h.1.output, h.1.size, h.1.block⟩, h.2⟩
theorem Ext.drewN {w w' : World} {O O' : Nat → Option Tag} (h : Ext w O w' O') (q : Nat) : Ext w O (w'.drewN q) O' := ⟨h.1.drewN q, h.2⟩
theorem RB.kept {K : Nat → Prop} {w w' : World} {B : Nat} {A : Option Addr} {l : List UInt8} (h : RB w B A l) (hk : Kept K w w') (hA : l ≠ [] → ∀ ad, A = some ad → K ad.block) (hB : B ≤ w.heap.size) : RB w' B A l := fun k x hx => by
  obtain ⟨ad, e, hlt, hc⟩ := h k x hx
  exact ⟨ad, e, hlt, (World.cell?_of_block (w := w) (by rw [add_block]; exact hk.block _ (by omega) (hA (by intro e0; rw [e0] at hx; simp at hx) ad e))).trans hc⟩
theorem RI.keptN {K : Nat → Prop} {w w' : World} {B : Nat} {A : Option Addr} {l : List Int} (h : RI w B A l) (hk : Kept K w w') (hA : l ≠ [] → ∀ ad, A = some ad → K ad.block) (hB : B ≤ w.heap.size) : RI w' B A l := by
  rcases l with _ | ⟨x, l⟩
  · exact RI.nil _ _ _
  · exact h.kept hk (hA (by simp)) hB
theorem writeD_ok {P : Pow} {ds : List (Nat × Drv)} (h : writeOk P = true) : writeD P ds = ds := by
  unfold writeOk at h
  unfold writeD
  simp at h
  rw [h.1, if_neg (by decide), if_neg h.2]

theorem add_sys (pw i d g z : Nat) (P : Pow) (ds : List (Nat × Drv)) (D : Drv) (O : Nat → Option Tag) (p : Pile) (cs : List Value) (A : Option Addr) (c : Nat) (l : List UInt8) (w : World) (h : SysAt w O pw P ds) (hi : ds[i]? = some (d, D))
    (h1 : Cells w d 71 [.pointer (some ⟨pw, 0, none⟩), .slice (some ⟨g, 0, none⟩) D.piles.length D.piles.length, .int .i64 (D.cap : Int), .int .i64 (D.size : Int), .bool D.lost]) (h2 : O d = some (.drv i))
    (h3 : Cells w g 91 cs) (h4 : O g = some (.piles i)) (h5 : cs.length = D.piles.length * 2) (h6 : ∀ (z : Nat) p, D.piles[z]? = some p → PileAt w O i z cs p)
    (hz : D.piles[z]? = some p) (hr : RB w w.heap.size A l) (hl : l.length = D.size) (hp : p.pages.length < D.cap) (hlost : D.lost = false) :
    Calls Try.prog 45 #[.pointer (some ⟨g, z * 2, none⟩), .slice A l.length c] w fun e w' => e = .returned (.tuple #[]) ∧ ∃ O', SysAt w' O' pw P (ds.set i (d, D.add z l)) ∧ Ext w O w' O' := by
  obtain ⟨v, c0, c1, vs, hrow, hOr, hvl, hpg⟩ := h6 z p hz
  have hok := (h.drv i d D hi).2
  have hc1 := hok.cap
  have hc2 := hok.high
  exact (add_any g (z * 2) v vs A c l w h3.lt (h3.cell c0) (h3.frozen _) hrow (fun e => by have := hOr g e; rw [h4] at this; cases this) hr (by omega) (by omega)).mono fun e w' hpost =>
    h.add hi h1 h2 h3 h4 h5 h6 hz c0 c1 hrow hOr hvl hpg hpost hl hp hlost

set_option maxRecDepth 20000 in
set_option maxHeartbeats 2000000 in
theorem append_any (pw i d : Nat) (P : Pow) (ds : List (Nat × Drv)) (D : Drv) (O : Nat → Option Tag) (z : Int) (A : Option Addr) (c : Nat) (l : List UInt8) (w : World) (h : SysAt w O pw P ds) (hi : ds[i]? = some (d, D))
    (hn : ds.length ≤ 1048576) (hw : P.writes ≤ 1099511627776) (hl : P.left ≤ 9223372036854775807) (hr : RB w w.heap.size A l) (hA : l ≠ [] → ∀ ad, A = some ad → O ad.block = none) :
    Calls Try.prog 16 #[.pointer (some ⟨d, 0, none⟩), .int .i64 z, .slice A l.length c] w (SysPost w O pw (appP P D z l) (appD P ds i d D z l) (.int .i64 (appCode P D z l : Nat))) := by
  obtain ⟨g, cs, h1, h2, h3, h4, h5, h6⟩ := (h.drv i d D hi).1
  have hok := (h.drv i d D hi).2
  obtain ⟨dv, Ap, cp, hp1, hp2, hp3⟩ := h.pow
  have c0 := h1.cell (i := 0) rfl
  have cs1 := h1.cell (i := 1) rfl
  have c2 := h1.cell (i := 2) rfl
  have c3 := h1.cell (i := 3) rfl
  have c4 := h1.cell (i := 4) rfl
  have cp1 := hp1.cell (i := 1) rfl
  have stay : ∀ q, appGo P D z l = false → SysPost w O pw (appP P D z l) (appD P ds i d D z l) (.int .i64 (appCode P D z l : Nat)) (.returned (.int .i64 (appCode P D z l : Nat))) (w.drewN q) := by
    intro q hg
    unfold appP appD
    rw [hg]
    exact ⟨O, rfl, h.drewN q, (Ext.refl w O).drewN q⟩
  by_cases hrd : readyCode P.off D.lost = 0
  case neg =>
    have Hf := Lib.hid (find_bad pw d g D.piles.length P.off D.lost z w c0 cp1 c4 hrd)
    have hs := stay 0 (by unfold appGo; simp [hrd])
    have hcode : appCode P D z l = readyCode P.off D.lost := by unfold appCode; rw [if_pos hrd]
    have Hs : Hid (SysPost w O pw (appP P D z l) (appD P ds i d D z l) (.int .i64 (readyCode P.off D.lost : Nat)) (.returned (.int .i64 (readyCode P.off D.lost : Nat))) w) := by rw [← hcode]; exact hs
    rw [hcode]
    have hne : (((readyCode P.off D.lost : Nat) : Int) != 0) = true := by simp; exact hrd
    generalize readyCode P.off D.lost = r at *
    clear hcode hs stay hrd h1 h2 h3 h4 h5 h6 hok hp1 hp2 hp3 c0 cs1 c2 c3 c4 cp1 h hi
    go_enter Try.func16, Try.ntmps16
    go_wp2_with (go_at_call 39; refine Hf.out.mono ?_; rintro e w1 ⟨rfl, rfl⟩)
    go_ret
    exact Hs.out
  have hoff : P.off = false := by unfold readyCode at hrd; revert hrd; cases P.off <;> simp
  have hlost : D.lost = false := by unfold readyCode at hrd; rw [hoff] at hrd; revert hrd; cases D.lost <;> simp
  rw [hoff] at cp1
  rw [hlost] at c4
  by_cases hz : 0 ≤ z ∧ z < (D.piles.length : Int)
  case neg =>
    have Hf := Lib.hid (find_out pw d g D.piles.length z w c0 cp1 c4 cs1 hz)
    have hs := stay 0 (by unfold appGo; simp only [hz, false_and, and_false, decide_false])
    have hcode : appCode P D z l = 1 := by unfold appCode; rw [if_neg (by simp [hrd]), if_pos (.inl hz)]
    rw [hcode] at hs ⊢
    have Hs : Hid (SysPost w O pw (appP P D z l) (appD P ds i d D z l) (.int .i64 1) (.returned (.int .i64 1)) w) := hs
    clear hcode hs stay hrd h1 h2 h3 h4 h5 h6 hok hp1 hp2 hp3 c0 cs1 c2 c3 c4 cp1 h hi hz
    go_enter Try.func16, Try.ntmps16
    go_wp2_with (go_at_call 39; refine Hf.out.mono ?_; rintro e w1 ⟨rfl, rfl⟩)
    go_ret
    exact Hs.out
  obtain ⟨zn, rfl⟩ : ∃ zn : Nat, z = (zn : Int) := ⟨z.toNat, by omega⟩
  have hzn : zn < D.piles.length := by omega
  have Hf := Lib.hid (find_in pw d g D.piles.length zn w c0 cp1 c4 cs1 hzn)
  by_cases hsz : l.length = D.size
  case neg =>
    have hs := stay 0 (by unfold appGo; simp [hsz])
    have hcode : appCode P D (zn : Int) l = 1 := by unfold appCode; rw [if_neg (by simp [hrd]), if_pos (.inr hsz)]
    rw [hcode] at hs ⊢
    have Hs : Hid (SysPost w O pw (appP P D (zn : Int) l) (appD P ds i d D (zn : Int) l) (.int .i64 1) (.returned (.int .i64 1)) w) := hs
    have hne : ((l.length : Int) != (D.size : Int)) = true := by simp; omega
    generalize l.length = n at *
    clear hcode hs stay hrd h1 h2 h3 h4 h5 h6 hok hp1 hp2 hp3 c0 cs1 c2 c4 cp1 h hi hz hsz
    go_enter Try.func16, Try.ntmps16
    go_wp2_with (go_at_call 39; refine Hf.out.mono ?_; rintro e w1 ⟨rfl, rfl⟩)
    go_ret
    exact Hs.out
  obtain ⟨p, hzp⟩ : ∃ p, D.piles[zn]? = some p := ⟨_, List.getElem?_eq_getElem hzn⟩
  have hzo : zoneOf D (zn : Int) = p := by simp [zoneOf, List.getD, hzp]
  obtain ⟨v, e0, e1, vs, hrow, hOr, hvl, hpg⟩ := h6 zn p hzp
  obtain ⟨Ar, cr, rfl, hcr, _, _⟩ := hrow.rd
  have hc0 := h3.cell e0
  rw [hvl] at hc0
  have hcap := hok.cap
  have hpp := hok.pages p (List.mem_of_getElem? hzp)
  have hsz' : (l.length : Int) ≤ 65536 := by have := hok.high; omega
  by_cases hroom : p.pages.length < D.cap
  case neg =>
    have hcode : appCode P D (zn : Int) l = 5 := by unfold appCode; rw [if_neg (by simp [hrd]), if_neg (by intro hh; rcases hh with hh | hh; exact hh hz; exact hh hsz), hzo, if_pos (by omega)]
    have Hs : Hid (∀ q, SysPost w O pw (appP P D (zn : Int) l) (appD P ds i d D (zn : Int) l) (.int .i64 5) (.returned (.int .i64 5)) (w.drewN q)) := by
      intro q
      have hs := stay q (by unfold appGo; simp [hzo, hroom])
      rw [hcode] at hs
      exact hs
    rw [hcode]
    have hne : ((l.length : Int) != (D.size : Int)) = false := by simp; omega
    have hge : (D.cap : Int) ≤ (p.pages.length : Int) := by omega
    generalize p.pages.length = n at *
    generalize D.size = sz at *
    clear hcode stay hrd h1 h2 h3 h4 h5 h6 hok hp1 hp2 hp3 c0 cs1 c4 cp1 h hi hz hsz hrow hOr hvl hpg hzp hzo
    go_enter Try.func16, Try.ntmps16
    go_upto_region 6 with (go_at_call 39; refine Hf.out.mono ?_; rintro e w1 ⟨rfl, rfl⟩)
    go_quiet (fail)
    go_wp2_with fail
    go_ret
    exact Hs.out _
  have hgo : appGo P D (zn : Int) l = true := by unfold appGo; exact decide_eq_true ⟨hrd, hz, hsz, by rw [hzo]; exact hroom⟩
  have hcode : appCode P D (zn : Int) l = if writeOk P then 0 else 8 := by
    unfold appCode
    rw [if_neg (by simp [hrd]), if_neg (by intro hh; rcases hh with hh | hh; exact hh hz; exact hh hsz), hzo, if_neg (by omega)]
  have eP : appP P D (zn : Int) l = writeP P := by unfold appP; rw [hgo]; rfl
  have eD : appD P ds i d D (zn : Int) l = if writeOk P then ds.set i (d, D.add zn l) else writeD P ds := by unfold appD; rw [hgo]; rfl
  rw [hcode, eP, eD]
  have Hw := Lib.hid (fun q => write_any pw P ds O (w.drewN q) (h.drewN q) hn hw hl)
  have hne : ((l.length : Int) != (D.size : Int)) = false := by simp; omega
  have hlt : (p.pages.length : Int) < (D.cap : Int) := by omega
  by_cases hok2 : writeOk P = true
  case neg =>
    have hok3 : writeOk P = false := by simpa using hok2
    rw [hok3] at Hw ⊢
    have Hs : Hid (∀ q w', SysAt w' O pw (writeP P) (writeD P ds) → Ext (w.drewN q) O w' O → SysPost w O pw (writeP P) (writeD P ds) (.int .i64 8) (.returned (.int .i64 8)) w') := fun q w' q1 q2 => ⟨O, rfl, q1, q2.of_drewN⟩
    have Hg : Hid (SysPost w O pw (writeP P) (if false = true then ds.set i (d, D.add zn l) else writeD P ds) (.int .i64 ((if false = true then 0 else 8 : Nat) : Int)) = SysPost w O pw (writeP P) (writeD P ds) (.int .i64 8)) := rfl
    rw [Hg.out]
    clear Hg
    generalize p.pages.length = n at *
    generalize D.size = sz at *
    clear hcode stay hrd h1 h2 h3 h4 h5 h6 hok hp1 hp2 hp3 cp1 h hi hz hsz hrow hOr hvl hpg hzp hzo hgo eP eD hok2 hok3 hpp hcap hroom
    go_enter Try.func16, Try.ntmps16
    go_upto_region 6 with (go_at_call 39; refine Hf.out.mono ?_; rintro e w1 ⟨rfl, rfl⟩)
    go_quiet (fail)
    go_wp2_with (go_at_call 44; refine (Hw.out _).mono ?_; rintro e w2 ⟨rfl, hsys, hext, _⟩; have Hs2 := Lib.hid (Hs.out _ w2 hsys hext); clear hsys hext)
    go_ret
    exact Hs2.out
  rw [hok2] at Hw ⊢
  have hD2 : writeD P ds = ds := writeD_ok hok2
  rw [hD2] at Hw
  have Hadd : Hid (∀ q w2, SysAt w2 O pw (writeP P) ds → Ext (w.drewN q) O w2 O → Kept (fun b => b ≠ pw) (w.drewN q) w2 →
      Calls Try.prog 45 #[.pointer (some ⟨g, zn * 2, none⟩), .slice A l.length c] w2 fun e w' => e = .returned (.tuple #[]) ∧ SysPost w O pw (writeP P) (ds.set i (d, D.add zn l)) (.int .i64 0) (.returned (.int .i64 0)) w') := by
    intro q w2 q1 q2 q3
    have k3 : Kept (fun b => b ≠ pw) w w2 := ⟨q3.os, q3.tape, q3.output, q3.size, q3.block⟩
    have ht : ∀ b t, O b = some t → t ≠ .pw → b ≠ pw := fun b t hb n e => n (by rw [e, hp2] at hb; cases hb; rfl)
    have hag : Agree (fun t => t ≠ .pw) w O w2 O := fun b t hlt hb ht2 => ⟨k3.block b hlt (ht b t hb ht2), hb⟩
    have r1 := h1.move (k3.block d h1.lt (ht d _ h2 (by intro e; cases e)))
    have r3 := h3.move (k3.block g h3.lt (ht g _ h4 (by intro e; cases e)))
    have r6 : ∀ (z : Nat) p, D.piles[z]? = some p → PileAt w2 O i z cs p := fun z' p' hz' => (h6 z' p' hz').keep hag (by intro e; cases e) (fun k => by intro e; cases e)
    have rr : RB w2 w2.heap.size A l := (hr.kept q2.of_drewN.1 hA (Nat.le_refl _)).wide k3.size
    exact (add_sys pw i d g zn (writeP P) ds D O p cs A c l w2 q1 hi r1 h2 r3 h4 h5 r6 hzp rr hsz hroom hlost).mono fun e w' ⟨he, O', s1, s2⟩ => ⟨he, O', rfl, s1, q2.of_drewN.trans s2⟩
  have Hg : Hid (SysPost w O pw (writeP P) (if true = true then ds.set i (d, D.add zn l) else ds) (.int .i64 ((if true = true then 0 else 8 : Nat) : Int)) = SysPost w O pw (writeP P) (ds.set i (d, D.add zn l)) (.int .i64 0)) := rfl
  rw [hD2, Hg.out]
  clear Hg
  generalize ds.set i (d, D.add zn l) = ds2 at *
  generalize p.pages.length = n at *
  generalize D.size = sz at *
  clear hcode stay hrd h1 h2 h3 h4 h5 h6 hok hp1 hp2 hp3 cp1 h hi hz hsz hrow hOr hvl hpg hzp hzo hgo eP eD hok2 hpp hcap hroom hD2
  go_enter Try.func16, Try.ntmps16
  go_upto_region 6 with (go_at_call 39; refine Hf.out.mono ?_; rintro e w1 ⟨rfl, rfl⟩)
  go_quiet (fail)
  go_wp2_with (first
    | (go_at_call 44; refine (Hw.out _).mono ?_; rintro e w2 ⟨rfl, hsys, hext, hkp⟩; have Hs2 := Lib.hid (Hadd.out _ w2 hsys hext (hkp (by trivial))); clear hsys hext hkp)
    | (go_at_call 45; refine Hs2.out.mono ?_; rintro e w3 ⟨rfl, hs3⟩; have Hs3 := Lib.hid hs3; clear hs3))
  go_ret
  exact Hs3.out
end Go.Proofs.Ytdnlikhfemhmeaa

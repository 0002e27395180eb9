/-
  The power with all that hangs on it, as one thing in memory; the power goes.
-/
import Derived.Test.YtdnlikhfemhmeaaZPow
namespace Go.Proofs.Ytdnlikhfemhmeaa
open Go.RowKit

def devV (d : Nat) : Value := .iface 36 (.pointer (some ⟨d, 0, none⟩))
def PowAt (w : World) (O : Nat → Option Tag) (pw : Nat) (P : Pow) (dl : List Nat) : Prop :=
  ∃ (dv : Value) (A : Option Addr) (c : Nat), Cells w pw 68 [dv, .bool P.off, .int .i64 (P.writes : Int), .int .i64 (P.left : Int), .slice A P.picks.length c] ∧ O pw = some .pw ∧
    OwnV w 0 98 dv (dl.map devV) ∧ (∀ g, dv.ownBlock = some g → O g = some .dev) ∧
    RI w w.heap.size A P.picks ∧ (∀ ad, A = some ad → O ad.block = some .picks) ∧ P.picks.length ≤ c ∧ P.picks.length ≤ 1099511627776
structure SysAt (w : World) (O : Nat → Option Tag) (pw : Nat) (P : Pow) (ds : List (Nat × Drv)) : Prop where
  fresh : ∀ b, O b ≠ none → b < w.heap.size
  drv : ∀ (i : Nat) d D, ds[i]? = some (d, D) → DrvAt w O i pw d D ∧ D.Ok
  pow : PowAt w O pw P (ds.map (·.1))
/-- what is not the system's is as it was; old blocks keep their owners -/
def Ext (w : World) (O : Nat → Option Tag) (w' : World) (O' : Nat → Option Tag) : Prop := Kept (fun b => O b = none) w w' ∧ ∀ b, b < w.heap.size → O' b = O b
def SysPost (w : World) (O : Nat → Option Tag) (pw : Nat) (P' : Pow) (ds' : List (Nat × Drv)) (v : Value) (e : Ending) (w' : World) : Prop :=
  ∃ O', e = .returned v ∧ SysAt w' O' pw P' ds' ∧ Ext w O w' O'

section
variable {w w' w'' : World} {O O' O'' : Nat → Option Tag} {pw : Nat} {P : Pow} {ds : List (Nat × Drv)} {dl : List Nat}
theorem Ext.refl (w : World) (O : Nat → Option Tag) : Ext w O w O := ⟨Kept.refl _ _, fun _ _ => rfl⟩
theorem Ext.trans (h : Ext w O w' O') (k : Ext w' O' w'' O'') : Ext w O w'' O'' := by
  refine ⟨⟨k.1.os.trans h.1.os, k.1.tape.trans h.1.tape, k.1.output.trans h.1.output, Nat.le_trans h.1.size k.1.size, fun b hb hO => ?_⟩, fun b hb => (k.2 b (Nat.lt_of_lt_of_le hb h.1.size)).trans (h.2 b hb)⟩
  exact (k.1.block b (Nat.lt_of_lt_of_le hb h.1.size) ((h.2 b hb).trans hO)).trans (h.1.block b hb hO)
theorem RI.wide {B B' : Nat} {A : Option Addr} {l : List Int} (h : RI w B A l) (hB : B ≤ B') : RI w B' A l := h.move (fun _ _ => rfl) hB
theorem PowAt.kept {K : Nat → Prop} (h : PowAt w O pw P dl) (hk : Kept K w w') (hK : ∀ b t, O b = some t → t.drive = none → K b) : PowAt w' O pw P dl := by
  obtain ⟨dv, A, c, h1, h2, h3, h4, h5, h6, h7⟩ := h
  refine ⟨dv, A, c, h1.move (hk.block pw h1.lt (hK pw _ h2 rfl)), h2, h3.move fun g hg => hk.block g (h3.ge g hg).2 (hK g _ (h4 g hg) rfl), h4, (h5.kept hk (fun ad he => hK _ _ (h6 ad he) rfl) (Nat.le_refl _)).wide hk.size, h6, h7⟩
/-- a step of somebody else's -/
theorem SysAt.kept (h : SysAt w O pw P ds) (hk : Kept (fun b => O b ≠ none) w w') : SysAt w' O pw P ds :=
  ⟨fun b hb => Nat.lt_of_lt_of_le (h.fresh b hb) hk.size, fun i d D hi => ⟨(h.drv i d D hi).1.kept hk (fun b t hb _ => by rw [hb]; simp), (h.drv i d D hi).2⟩, h.pow.kept hk (fun b t hb _ => by rw [hb]; simp)⟩
theorem SysAt.drewN (h : SysAt w O pw P ds) (n : Nat) : SysAt (w.drewN n) O pw P ds := h.kept ((Kept.refl _ w).drewN n)
end

/-- blocks that no drive has -/
def NotDrive (O : Nat → Option Tag) (b : Nat) : Prop := ∀ t, O b = some t → t.drive = none
def cutFirst (k : Nat) (picks : List Int) (i : Nat) (D : Drv) : Drv := if i < k then D.cut picks else D
def FailRel (w1 : World) (O : Nat → Option Tag) (pw : Nat) (picks : List Int) (ds : List (Nat × Drv)) (k : Nat) (wr : World) : Prop :=
  Kept (NotDrive O) w1 wr ∧ ∀ (i : Nat) d D, ds[i]? = some (d, D) → DrvAt wr O i pw d (cutFirst k picks i D)
theorem FailRel.next {w1 wr w3 : World} {O : Nat → Option Tag} {pw : Nat} {picks : List Int} {ds : List (Nat × Drv)} {k d : Nat} {D : Drv} (h : FailRel w1 O pw picks ds k wr) (hi : ds[k]? = some (d, D))
    (hk : Kept (CutK O k) wr w3) (hd : DrvAt w3 O k pw d (D.cut picks)) : FailRel w1 O pw picks ds (k + 1) w3 := by
  refine ⟨h.1.trans (hk.mono fun b _ hb => ⟨(fun e => by have h2 := hb _ e; cases h2), (fun z e => by have h2 := hb _ e; cases h2)⟩), fun i d' D' hi' => ?_⟩
  by_cases e : i = k
  · subst e
    rw [hi] at hi'
    cases hi'
    unfold cutFirst
    rw [if_pos (by omega)]
    exact hd
  · have h2 := h.2 i d' D' hi'
    have e2 : cutFirst (k + 1) picks i D' = cutFirst k picks i D' := by
      unfold cutFirst
      by_cases hlt : i < k
      · rw [if_pos hlt, if_pos (by omega)]
      · rw [if_neg hlt, if_neg (by omega)]
    rw [e2]
    refine h2.kept hk fun b t hb ht => ⟨fun e' => ?_, fun z e' => ?_⟩
    · rw [hb] at e'
      cases e'
      cases ht
      exact e rfl
    · rw [hb] at e'
      cases e'
      cases ht
      exact e rfl

/- 218: the fuel as the walk shows it (the number of the seat's types, and 100) -/
theorem nil_ahead_cut (a : Addr) (w : World) : (nilAhead 218 36 (.pointer (some a)) "Cut").run Try.prog w = .ok (some false) w := by kernel_rfl
theorem method_cut (a : Addr) (w : World) : (method 218 36 (.pointer (some a)) "Cut").run Try.prog w = .ok (18, .pointer (some a)) w := by kernel_rfl
set_option maxRecDepth 20000 in
set_option maxHeartbeats 2000000 in
theorem fail_any (pw : Nat) (P : Pow) (ds : List (Nat × Drv)) (O : Nat → Option Tag) (w : World) (h : SysAt w O pw P ds) (hn : ds.length ≤ 1048576) :
    Calls Try.prog 53 #[.pointer (some ⟨pw, 0, none⟩)] w fun e w' => e = .returned (.tuple #[]) ∧
      SysAt w' O pw { P with off := true, left := 0, picks := [] } (ds.map fun x => (x.1, x.2.cut P.picks)) ∧ Ext w O w' O := by
  obtain ⟨dv, A, c, h1, h2, h3, h4, h5, h6, h7, h8⟩ := h.pow
  obtain ⟨Ad, cd, rfl, hcd, _, hrd⟩ := h3.rd
  rw [List.length_map, List.length_map] at h1 h3 h4 hcd
  have c0 := h1.cell (i := 0) rfl
  have c1 := h1.cell (i := 1) rfl
  have c3 := h1.cell (i := 3) rfl
  have c4 := h1.cell (i := 4) rfl
  have f1 := h1.frozen 1
  have f3 := h1.frozen 3
  have f4 := h1.frozen 4
  go_enter Try.func53, Try.ntmps53
  go_wp2_with fail
  obtain ⟨w1, hw1⟩ : ∃ w1, w1 = ((w.setCell ⟨pw, 1, none⟩ (.bool true)).setCell ⟨pw, 3, none⟩ (.int .i64 0)).setCell ⟨pw, 4, none⟩ (.slice none 0 0) := ⟨_, rfl⟩
  have k1 : Cells w1 pw 68 [.slice Ad ds.length cd, .bool true, .int .i64 (P.writes : Int), .int .i64 0, .slice none 0 0] := by
    rw [hw1]
    exact ((h1.set 1 (.bool true)).set 3 (.int .i64 0)).set 4 (.slice none 0 0)
  have k2 : Kept (fun b => b ≠ pw) w w1 := by
    rw [hw1]
    exact (((Kept.refl _ w).setCell (fun h => h rfl) _).setCell (fun h => h rfl) _).setCell (fun h => h rfl) _
  rw [← hw1]
  clear hw1 c0 c1 c3 c4 f1 f3 f4
  have hpwt : ∀ b t, O b = some t → t ≠ .pw → b ≠ pw := fun b t hb ht e => ht (by rw [e, h2] at hb; cases hb; rfl)
  have HA := Lib.hid h6
  have Hdev1 : Hid (OwnV w1 0 98 (.slice Ad ds.length cd) ((ds.map (·.1)).map devV)) := h3.move fun g hg => k2.block g (h3.ge g hg).2 (hpwt g _ (h4 g hg) (by intro h; cases h))
  have Hri1 : Hid (RI w1 w.heap.size A P.picks) := h5.kept k2 (fun ad he => hpwt _ _ (h6 ad he) (by intro h; cases h)) (Nat.le_refl _)
  have Hst : Hid (FailRel w1 O pw P.picks ds 0 w1) := by
    refine ⟨Kept.refl _ _, fun i d D hi => ?_⟩
    have e : cutFirst 0 P.picks i D = D := by unfold cutFirst; rw [if_neg (by omega)]
    rw [e]
    exact (h.drv i d D hi).1.kept k2 fun b t hb ht => hpwt b t hb (by intro e; subst e; cases ht)
  have Hok : Hid (∀ (i : Nat) d D, ds[i]? = some (d, D) → D.Ok) := fun i d D hi => (h.drv i d D hi).2
  have Hfresh := Lib.hid h.fresh
  have Hsz1 : Hid (w.heap.size ≤ w1.heap.size) := k2.size
  have Hpl := Lib.hid h8
  have Hdevt : Hid (∀ g, (Value.slice Ad ds.length cd).ownBlock = some g → O g = some .dev) := h4
  have Fin : Hid (∀ wr, FailRel w1 O pw P.picks ds ds.length wr → SysAt wr O pw { P with off := true, left := 0, picks := [] } (ds.map fun x => (x.1, x.2.cut P.picks)) ∧ Ext w O wr O) := by
    intro wr hrel
    have kk : Kept (fun b => O b = none) w wr := by
      refine ⟨hrel.1.os.trans k2.os, hrel.1.tape.trans k2.tape, hrel.1.output.trans k2.output, Nat.le_trans k2.size hrel.1.size, fun b hb hO => ?_⟩
      exact (hrel.1.block b (Nat.lt_of_lt_of_le hb k2.size) (fun t ht => by rw [hO] at ht; cases ht)).trans (k2.block b hb (fun e => by rw [e, h2] at hO; cases hO))
    refine ⟨⟨fun b hb => Nat.lt_of_lt_of_le (h.fresh b hb) kk.size, fun i d D hi => ?_, ?_⟩, kk, fun _ _ => rfl⟩
    · rw [List.getElem?_map] at hi
      rcases hx : ds[i]? with _ | ⟨d0, D0⟩
      · rw [hx] at hi; cases hi
      · rw [hx] at hi
        cases hi
        have h9 := hrel.2 i d0 D0 hx
        have e : cutFirst ds.length P.picks i D0 = D0.cut P.picks := by
          unfold cutFirst
          rw [if_pos (List.getElem?_eq_some_iff.1 hx).1]
        rw [e] at h9
        exact ⟨h9, (h.drv i d0 D0 hx).2.cut _⟩
    · have h10 : PowAt w1 O pw { P with off := true, left := 0, picks := [] } (ds.map (·.1)) :=
        ⟨_, none, 0, k1, h2, Hdev1.out, h4, RI.nil _ _ _, (by intro ad h; cases h), Nat.le_refl _, Nat.zero_le _⟩
      rw [List.map_map]
      exact h10.kept hrel.1 fun b t hb ht t' ht' => by rw [hb] at ht'; cases ht'; exact ht
  have kc0 := k1.cell (i := 0) rfl
  have Hpc := Lib.hid h7
  clear h h1 h2 h3 h4 h6 h7 h8 hrd hcd k1 k2 hpwt h5
  have hn' : (ds.length : Int) ≤ 1048576 := by omega
  go_wp2_with fail
  go_loopw [23] (fun iv wr => ∃ k : Nat, iv = .int .i64 (k : Int) ∧ k ≤ ds.length ∧ Hid (FailRel w1 O pw P.picks ds k wr)) (fun iv _ => ds.length - (intOf iv).toNat)
  case atStart => exact ⟨0, rfl, Nat.zero_le _, Hst.out⟩
  case round =>
    obtain ⟨k, rfl, hk, hrel⟩ := hrel
    by_cases hlt : k < ds.length
    case neg =>
      obtain rfl : k = ds.length := by omega
      have Hf := Lib.hid (Fin.out wr hrel.out)
      go_wp2_with fail
      go_end0
      exact ⟨rfl, Hf.out⟩
    have hk' : (k : Int) < (ds.length : Int) := by omega
    obtain ⟨⟨d, D⟩, hi⟩ : ∃ x, ds[k]? = some x := ⟨ds[k], List.getElem?_eq_getElem hlt⟩
    have hdk := hrel.out.2 k d D hi
    have ecut : cutFirst k P.picks k D = D := by unfold cutFirst; rw [if_neg (by omega)]
    rw [ecut] at hdk
    have hokD := Hok.out k d D hi
    have hlost : wr.cell? ⟨d, 4, none⟩ = some (.bool D.lost) := by
      obtain ⟨g, cs, q1, _⟩ := hdk
      exact q1.cell rfl
    have hdv : ∃ b, Ad = some ⟨b, 0, none⟩ ∧ wr.cell? ⟨b, k, none⟩ = some (.iface 36 (.pointer (some ⟨d, 0, none⟩))) := by
      have q1 : OwnV wr 0 98 (.slice Ad ds.length cd) ((ds.map (·.1)).map devV) := Hdev1.out.move fun g hg => hrel.out.1.block g (Hdev1.out.ge g hg).2 (fun t ht => by rw [Hdevt.out g hg] at ht; cases ht; rfl)
      obtain ⟨A', c', e, _, _, q2⟩ := q1.rd
      have eA : Ad = A' := by injection e
      subst eA
      obtain ⟨b, e2, _, q3⟩ := q2 k (devV d) (by simp [hi])
      exact ⟨b, e2, q3⟩
    obtain ⟨b, rfl, hdv⟩ := hdv
    have Hsp := Lib.hid (spared_any d D.lost wr hlost)
    have Hclone : Hid (Calls Try.prog 50 #[.slice A P.picks.length c] wr.drew fun e w' => ∃ v, e = .returned v ∧ OwnV w' wr.heap.size 3 v (P.picks.map (Value.int .i64)) ∧ Below wr.heap.size wr w') := by
      have q1 : RI wr w.heap.size A P.picks := Hri1.out.kept hrel.out.1 (fun ad he t ht => by rw [HA.out ad he] at ht; cases ht; rfl) Hsz1.out
      have q2 := cloneInts_any A c P.picks wr.drew w.heap.size q1 (Nat.le_trans Hsz1.out hrel.out.1.size) Hpl.out
      refine q2.mono fun e w' ⟨v, he, ho, hb⟩ => ⟨v, he, ho, ⟨hb.os, hb.tape, hb.output, hb.size, hb.block⟩⟩
    have Hcut : Hid (∀ v w2, OwnV w2 wr.heap.size 3 v (P.picks.map (Value.int .i64)) → Below wr.heap.size wr w2 → ∃ A2 c2, v = .slice A2 P.picks.length c2 ∧
        Calls Try.prog 18 #[.pointer (some ⟨d, 0, none⟩), .slice A2 P.picks.length c2] w2 fun e w' => e = .returned (.tuple #[]) ∧ FailRel w1 O pw P.picks ds (k + 1) w') := by
      intro v w2 hv hb
      obtain ⟨A2, c2, e, hc2, hri2⟩ := RI.of_own hv
      have hcap : c2 ≤ 9223372036854775807 := by
        rcases hv.form with ⟨q, _⟩ | ⟨g, cap, cur, q, _, _, _, qm, _⟩
        · rw [e] at q
          have q9 : c2 = 0 := by injection q
          omega
        · rw [e] at q
          simp only [maxLen] at qm
          have q9 : c2 = cap := by injection q
          omega
      have hfr : ∀ ad, A2 = some ad → CutK O k ad.block := by
        intro ad hA2
        have q := (hv.ge ad.block (by rw [e, hA2]; rfl)).1
        have q0 : O ad.block = none := by
          rcases hO : O ad.block with _ | t
          · rfl
          · have := Hfresh.out ad.block (by rw [hO]; simp)
            have := Hsz1.out
            have := hrel.out.1.size
            omega
        exact ⟨(by rw [q0]; intro h; cases h), (fun z => by rw [q0]; intro h; cases h)⟩
      have kb : Kept (CutK O k) wr w2 := (Kept.refl _ wr).below hb
      have hd2 : DrvAt w2 O k pw d D := hdk.kept ((Kept.refl (fun _ => True) wr).below hb) (fun _ _ _ _ => trivial)
      have hrel2 : FailRel w1 O pw P.picks ds k w2 := ⟨hrel.out.1.below hb, fun i d' D' hi' => (hrel.out.2 i d' D' hi').kept ((Kept.refl (fun _ => True) wr).below hb) (fun _ _ _ _ => trivial)⟩
      exact ⟨A2, c2, e, (driveCut_any k pw d A2 c2 P.picks D O w2 hokD hd2 hri2 (fun _ => hfr) hc2 hcap).mono fun e w' ⟨he, hdone⟩ => ⟨he, hrel2.next hi hdone.2 hdone.1⟩⟩
    by_cases hl : D.lost = true
    · rw [hl] at Hsp hlost
      have Hnext : Hid (FailRel w1 O pw P.picks ds (k + 1) wr) := hrel.out.next hi (Kept.refl _ _) (by rw [Drv.cut_lost hokD hl]; exact hdk)
      clear hdk hokD hi ecut Hcut Hclone hlost
      go_wp2_with (go_at_call 55; refine Hsp.out.mono ?_; rintro e w2 ⟨rfl, rfl⟩)
      go_roundw
      case rel => exact ⟨k + 1, by go_num, by omega, Hnext.out⟩
      case measure => simp [intOf]; omega
    have hl' : D.lost = false := by simpa using hl
    rw [hl'] at Hsp hlost
    have hna := fun W => nil_ahead_cut ⟨d, 0, none⟩ W
    have hme := fun W => method_cut ⟨d, 0, none⟩ W
    clear hdk hokD hi ecut hlost hl hl'
    go_upto_region 6 with (go_at_call 55; refine Hsp.out.mono ?_; rintro e w2 ⟨rfl, rfl⟩)
    go_region_with (first
      | (go_at_call 50; refine Hclone.out.mono ?_; rintro e w2 ⟨v, rfl, hv, hb2⟩; obtain ⟨A2, c2, rfl, hcall⟩ := Hcut.out v w2 hv hb2; have Hcall := Lib.hid hcall; clear hv hb2 hcall)
      | (go_at_call 18; refine Hcall.out.mono ?_; rintro e w3 ⟨rfl, hnext⟩; have Hnext := Lib.hid hnext; clear hnext))
    all_goals
      go_wp2_with fail
      go_roundw
      case rel => exact ⟨k + 1, by go_num, by omega, Hnext.out⟩
      case measure => simp [intOf]; omega
end Go.Proofs.Ytdnlikhfemhmeaa

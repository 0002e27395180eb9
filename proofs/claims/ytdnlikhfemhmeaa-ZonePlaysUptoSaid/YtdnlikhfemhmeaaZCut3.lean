/-
  A drive that is cut.
-/
import Derived.Test.YtdnlikhfemhmeaaZCut2
namespace Go.Proofs.Ytdnlikhfemhmeaa
open Go.RowKit

def CutK (O : Nat → Option Tag) (i : Nat) (x : Nat) : Prop := O x ≠ some (.piles i) ∧ ∀ z, O x ≠ some (.row i z)
def CutDone (O : Nat → Option Tag) (i pw d : Nat) (D : Drv) (picks : List Int) (w : World) (w' : World) : Prop :=
  DrvAt w' O i pw d (D.cut picks) ∧ Kept (CutK O i) w w'

theorem cutPiles_stay (p : Pile) (rest : List Pile) (pk : List Int) (h : p.pages.length = p.firm) : cutPiles (p :: rest) pk = p :: cutPiles rest pk := by
  rw [cutPiles, if_pos h]
theorem cutPiles_go (p : Pile) (rest : List Pile) (pk : List Int) (h : p.pages.length ≠ p.firm) : cutPiles (p :: rest) pk = p.cut (pk.headD 0) :: cutPiles rest pk.tail := by
  rw [cutPiles, if_neg h]
theorem Drv.Ok.set {D : Drv} (h : D.Ok) (z : Nat) (p : Pile) (k : Int) (hp : D.piles[z]? = some p) : ({ D with piles := D.piles.set z (p.cut k) } : Drv).Ok := by
  have hm : p ∈ D.piles := List.mem_of_getElem? hp
  have hmem : ∀ q ∈ D.piles.set z (p.cut k), q = p.cut k ∨ q ∈ D.piles := fun q hq => by
    rcases List.mem_or_eq_of_mem_set hq with h | h
    · exact .inr h
    · exact .inl h
  refine ⟨by simp only [List.length_set]; exact h.zones, h.cap, h.low, h.high, fun q hq => ?_, fun q hq => ?_, fun q hq l hl => ?_, fun hl q hq => ?_⟩
  · rcases hmem q hq with rfl | hq
    · exact Nat.le_trans (p.cut_ok k (h.firm _ hm)).2 (h.pages _ hm)
    · exact h.pages _ hq
  · rcases hmem q hq with rfl | hq
    · exact (p.cut_ok k (h.firm _ hm)).1
    · exact h.firm _ hq
  · rcases hmem q hq with rfl | hq
    · exact h.sizes _ hm l (List.mem_of_mem_take hl)
    · exact h.sizes _ hq l hl
  · rcases hmem q hq with rfl | hq
    · have := h.lost hl p hm
      subst this
      unfold Pile.cut Pile.keep
      simp
    · exact h.lost hl q hq

theorem DrvAt.drewN {w : World} {O : Nat → Option Tag} {i pw d : Nat} {D : Drv} (h : DrvAt w O i pw d D) (q : Nat) : DrvAt (w.drewN q) O i pw d D := h
/-- where a cut stands behind some piles -/
def CutRel (w : World) (O : Nat → Option Tag) (i pw d : Nat) (D : Drv) (picks : List Int) (B : Nat) (k : Nat) (A : Option Addr) (pk : List Int) (wr : World) : Prop :=
  ∃ (done rest : List Pile), done.length = k ∧ done.length + rest.length = D.piles.length ∧ cutPiles D.piles picks = done ++ cutPiles rest pk ∧ ({ D with piles := done ++ rest } : Drv).Ok ∧
    DrvAt wr O i pw d { D with piles := done ++ rest } ∧ Kept (CutK O i) w wr ∧ RI wr B A pk

theorem RI.kept {K : Nat → Prop} {w w' : World} {B : Nat} {A : Option Addr} {l : List Int} (h : RI w B A l) (hk : Kept K w w') (hA : ∀ ad, A = some ad → K ad.block) (hB : B ≤ w.heap.size) : RI w' B A l := fun k x hx => by
  obtain ⟨ad, e, hlt, hc⟩ := h k x hx
  exact ⟨ad, e, hlt, (World.cell?_of_block (w := w) (by rw [add_block]; exact hk.block _ (by omega) (hA ad e))).trans hc⟩
theorem RI.kept2 {K : Nat → Prop} {w w' : World} {B : Nat} {A : Option Addr} {l : List Int} (h : RI w B A l) (hk : Kept K w w') (hA : l ≠ [] → ∀ ad, A = some ad → K ad.block) (hB : B ≤ w.heap.size) : RI w' B A l := by
  rcases l with _ | ⟨x, r⟩
  · exact RI.nil _ _ _
  · exact h.kept hk (hA (by simp)) hB
theorem CutRel.stay {w : World} {O : Nat → Option Tag} {i pw d : Nat} {D : Drv} {picks : List Int} {B k : Nat} {A : Option Addr} {pk : List Int} {wr : World} {done rest : List Pile} {p : Pile}
    (e1 : done.length = k) (e2 : done.length + (p :: rest).length = D.piles.length) (e3 : cutPiles D.piles picks = done ++ cutPiles (p :: rest) pk) (e4 : ({ D with piles := done ++ p :: rest } : Drv).Ok)
    (e5 : DrvAt wr O i pw d { D with piles := done ++ p :: rest }) (e6 : Kept (CutK O i) w wr) (e7 : RI wr B A pk) (hp : p.pages.length = p.firm) (q : Nat) :
    CutRel w O i pw d D picks B (k + 1) A pk (wr.drewN q) := by
  refine ⟨done ++ [p], rest, by simp [e1], by simp at e2 ⊢; omega, ?_, ?_, ?_, e6.drewN q, e7⟩
  · rw [e3, cutPiles_stay p rest pk hp]
    simp
  · simpa using e4
  · have e8 : DrvAt wr O i pw d { D with piles := (done ++ [p]) ++ rest } := by simpa using e5
    exact e8.drewN q
theorem CutRel.go {w : World} {O : Nat → Option Tag} {i pw d : Nat} {D : Drv} {picks : List Int} {B k : Nat} {A' : Option Addr} {pk : List Int} {wr w2 : World} {done rest : List Pile} {p : Pile} {x : Int}
    (e1 : done.length = k) (e2 : done.length + (p :: rest).length = D.piles.length) (e3 : cutPiles D.piles picks = done ++ cutPiles (p :: rest) pk) (e4 : ({ D with piles := done ++ p :: rest } : Drv).Ok)
    (e6 : Kept (CutK O i) w wr) (e7 : RI wr B A' pk.tail) (hp : p.pages.length ≠ p.firm) (hx : x = pk.headD 0) (hA : pk.tail ≠ [] → ∀ ad, A' = some ad → CutK O i ad.block) (hB : B ≤ wr.heap.size)
    (h2 : DrvAt w2 O i pw d { D with piles := done ++ p.cut x :: rest }) (hk : Kept (CutK O i) wr w2) :
    CutRel w O i pw d D picks B (k + 1) A' pk.tail w2 := by
  have hok := e4.set k p x (by rw [← e1]; simp)
  have es : (done ++ p :: rest).set k (p.cut x) = done ++ p.cut x :: rest := by
    rw [← e1, List.set_append_right _ _ (Nat.le_refl _), Nat.sub_self, List.set_cons_zero]
  simp only [es] at hok
  refine ⟨done ++ [p.cut x], rest, by simp [e1], by simp at e2 ⊢; omega, ?_, by simpa using hok, by simpa using h2, e6.trans hk, e7.kept2 hk hA hB⟩
  rw [e3, cutPiles_go p rest pk hp, ← hx]
  simp

set_option maxRecDepth 20000 in
set_option maxHeartbeats 2000000 in
theorem driveCut_any (i pw d : Nat) (A : Option Addr) (c : Nat) (picks : List Int) (D : Drv) (O : Nat → Option Tag) (w : World) (hok : D.Ok) (hD : DrvAt w O i pw d D)
    (hR : RI w w.heap.size A picks) (hA : picks ≠ [] → ∀ ad, A = some ad → CutK O i ad.block) (hc : picks.length ≤ c) (hcm : c ≤ 9223372036854775807) :
    Calls Try.prog 18 #[.pointer (some ⟨d, 0, none⟩), .slice A picks.length c] w fun e w' => e = .returned (.tuple #[]) ∧ CutDone O i pw d D picks w w' := by
  obtain ⟨N, hN⟩ : ∃ N, N = D.piles.length := ⟨_, rfl⟩
  have hN1 : (N : Int) ≤ 4096 := by have := hok.zones; omega
  have hd1 : ∃ g, w.cell? ⟨d, 1, none⟩ = some (.slice (some ⟨g, 0, none⟩) N N) := by
    obtain ⟨g, cs, h1, _⟩ := hD
    exact ⟨g, by rw [hN]; exact h1.cell rfl⟩
  obtain ⟨g0, hd1⟩ := hd1
  have Hst : Hid (CutRel w O i pw d D picks w.heap.size 0 A picks w) := ⟨[], D.piles, rfl, by simp, rfl, hok, hD, Kept.refl _ _, hR⟩
  have HN := Lib.hid hN
  have HA := Lib.hid hA
  clear hok hD hR hN hA
  go_enter Try.func18, Try.ntmps18
  go_wp2_with fail
  clear hd1
  go_loopw [1, 12] (fun pv iv wr => ∃ (k : Nat) (A' : Option Addr) (pk : List Int) (c' : Nat), iv = .int .i64 (k : Int) ∧ pv = .slice A' pk.length c' ∧ k ≤ N ∧ pk.length ≤ c' ∧ c' ≤ 9223372036854775807 ∧ Hid (pk ≠ [] → ∀ ad, A' = some ad → CutK O i ad.block) ∧ Hid (CutRel w O i pw d D picks w.heap.size k A' pk wr)) (fun _ iv _ => N - (intOf iv).toNat)
  case atStart => exact ⟨0, A, picks, c, rfl, rfl, Nat.zero_le _, hc, hcm, HA.out, Hst.out⟩
  case round =>
    obtain ⟨k, A', pk, c', rfl, rfl, hk, hpc, hcm', hA', hrel⟩ := hrel
    by_cases hlt : k < N
    case neg =>
      obtain rfl : k = N := by omega
      have Hfin : Hid (CutDone O i pw d D picks w wr) := by
        obtain ⟨done, rest, e1, e2, e3, e4, e5, e6, e7⟩ := hrel.out
        have e8 : rest = [] := List.eq_nil_of_length_eq_zero (by have := HN.out; omega)
        subst e8
        refine ⟨?_, e6⟩
        have e9 : (D.cut picks) = { D with piles := done ++ [] } := by unfold Drv.cut; rw [e3]; rfl
        rw [e9]
        exact e5
      clear hlt hk
      go_wp2_with fail
      go_end0
      exact ⟨rfl, Hfin.out⟩
    obtain ⟨done, rest, e1, e2, e3, e4, e5, e6, e7⟩ := hrel.out
    obtain ⟨p, rest', rfl⟩ : ∃ p rest', rest = p :: rest' := by
      rcases rest with _ | ⟨p, r⟩
      · have := HN.out
        simp at e2
        omega
      · exact ⟨p, r, rfl⟩
    have hlen : (done ++ p :: rest').length = N := by have := HN.out; simp at e2 ⊢; omega
    have hz : (done ++ p :: rest')[k]? = some p := by rw [← e1]; simp
    obtain ⟨g, cs, h1, h2, h3, h4, h5, h6⟩ := e5
    simp only [hlen] at h1 h5
    have hd1 : wr.cell? ⟨d, 1, none⟩ = some (.slice (some ⟨g, 0, none⟩) N N) := h1.cell rfl
    obtain ⟨v, c0, c1, vs, hrow, hOr, hvl, hpg⟩ := h6 k p hz
    obtain ⟨A0, cap0, rfl, hcap0, _, _⟩ := hrow.rd
    have hp0 := e4.pages p (by simp)
    have hf0 := e4.firm p (by simp)
    have hcc := e4.cap
    have hp0' : p.pages.length ≤ D.cap := hp0
    have hcc' : D.cap ≤ 4096 := hcc
    have Hlo := Lib.hid (fun q : Nat => loose_any g (k * 2) A0 vs.length cap0 p.firm (wr.drewN q) (h3.cell c0) (h3.cell c1) (by omega) (by omega))
    have Hpc : Hid (p.firm < p.pages.length → ∀ (q : Nat) (x : Int), Calls Try.prog 49 #[.pointer (some ⟨g, k * 2, none⟩), .int .i64 x] (wr.drewN q) fun e w' => e = .returned (.tuple #[]) ∧
        DrvAt w' O i pw d { D with piles := done ++ p.cut x :: rest' } ∧ Kept (CutK O i) wr w') := by
      show _ → _
      intro hfl q x
      have hh := pcut_any i pw d g k cs { D with piles := done ++ p :: rest' } O p x (wr.drewN q) e4 (by simp only [hlen]; exact h1) h2 h3 h4 (by simp only [hlen]; exact h5) h6 hz hfl
      refine hh.mono fun e w' ⟨he, hd, hk⟩ => ⟨he, ?_, ?_⟩
      · have es : (done ++ p :: rest').set k (p.cut x) = done ++ p.cut x :: rest' := by
          rw [← e1, List.set_append_right _ _ (Nat.le_refl _), Nat.sub_self, List.set_cons_zero]
        simp only [es] at hd
        exact hd
      · exact ⟨hk.os, hk.tape, hk.output, hk.size, fun b hb hK => hk.block b hb ⟨hK.1, hK.2 k⟩⟩
    have Hsz : Hid (w.heap.size ≤ wr.heap.size) := e6.size
    have Hstay : Hid (p.pages.length = p.firm → ∀ q, CutRel w O i pw d D picks w.heap.size (k + 1) A' pk (wr.drewN q)) :=
      fun hp q => CutRel.stay e1 e2 e3 e4 ⟨g, cs, by simp only [hlen]; exact h1, h2, h3, h4, by simp only [hlen]; exact h5, h6⟩ e6 e7 hp q
    have Hgo : Hid (p.pages.length ≠ p.firm → ∀ (x : Int) (A2 : Option Addr) (w2 : World), x = pk.headD 0 → RI wr w.heap.size A2 pk.tail → (pk.tail ≠ [] → ∀ ad, A2 = some ad → CutK O i ad.block) →
        DrvAt w2 O i pw d { D with piles := done ++ p.cut x :: rest' } → Kept (CutK O i) wr w2 → CutRel w O i pw d D picks w.heap.size (k + 1) A2 pk.tail w2) :=
      fun hp x A2 w2 hx hri hA2 hd hk => CutRel.go e1 e2 e3 e4 e6 hri hp hx hA2 Hsz.out hd hk
    have hcell0 := h3.cell c0
    have hcell1 := h3.cell c1
    have He7 := Lib.hid e7
    rw [hvl] at hcell0 hcap0
    simp only [hvl] at Hlo
    have hk' : (k : Int) < (N : Int) := by omega
    have hfc : (p.firm : Int) ≤ 4096 := by omega
    have hnc : (p.pages.length : Int) ≤ 4096 := by omega
    by_cases hnf : p.pages.length = p.firm
    · have Hs := Lib.hid (Hstay.out hnf)
      have ht : ((p.pages.length : Int) - (p.firm : Int) == 0) = true := by simp; omega
      generalize p.pages.length = n at *
      generalize p.firm = f at *
      clear hlen hz h1 h2 h3 h4 h5 h6 c0 c1 hrow hOr hvl hpg hp0 hf0 hcc hp0' hcc' e1 e2 e3 e4 e6 e7 hnf Hstay Hgo Hpc
      go_wp2_with (go_at_call 48; refine (Hlo.out 0).mono ?_; rintro e w1 ⟨rfl, q, rfl⟩)
      go_roundw
      case rel => exact ⟨k + 1, A', pk, c', by go_num, rfl, by omega, hpc, hcm', hA'.out, Hs.out _⟩
      case measure => simp [intOf]; omega
    have Hs := Lib.hid (Hgo.out hnf)
    have Hcut := Lib.hid (Hpc.out (by omega))
    have ht : ((p.pages.length : Int) - (p.firm : Int) == 0) = false := by simp; omega
    generalize p.pages.length = n at *
    generalize p.firm = f at *
    clear hlen hz h1 h2 h3 h4 h5 h6 c0 c1 hrow hOr hvl hpg hp0 hf0 hcc hp0' hcc' e1 e2 e3 e4 e6 e7 hnf Hstay Hgo Hpc
    rcases pk with _ | ⟨x, r⟩
    · go_wp2_with (first
        | (go_at_call 48; refine (Hlo.out 0).mono ?_; rintro e w1 ⟨rfl, q, rfl⟩)
        | (go_at_call 49; refine (Hcut.out _ _).mono ?_; rintro e w2 ⟨rfl, hd2, hk2⟩; have HR := Lib.hid (Hs.out 0 A' w2 rfl (RI.nil _ _ _) (fun h => absurd rfl h) hd2 hk2); clear hd2 hk2))
      go_roundw
      case rel => exact ⟨k + 1, A', [], c', by go_num, rfl, by omega, Nat.zero_le _, hcm', hA'.out, HR.out⟩
      case measure => simp [intOf]; omega
    obtain ⟨b, o, rfl, hbl⟩ := He7.out.flat (by simp)
    have hcx : wr.cell? ⟨b, o, none⟩ = some (.int .i64 x) := He7.out.at_ (k := 0) (by simp)
    have hcut := He7.out.cutFlat 1
    have Hcf : Hid (RI wr w.heap.size (some ⟨b, o + 1, none⟩) r) := hcut
    have Hbk : Hid (CutK O i b) := hA'.out (by simp) _ rfl
    clear hcut hbl
    simp only [List.length_cons] at hpc
    by_cases hc1 : c' = 1
    · subst hc1
      obtain rfl : r = [] := List.eq_nil_of_length_eq_zero (by omega)
      go_upto_region 7 with (go_at_call 48; refine (Hlo.out 0).mono ?_; rintro e w1 ⟨rfl, q, rfl⟩)
      go_quiet (fail)
      go_wp2_with (go_at_call 49; refine (Hcut.out _ _).mono ?_; rintro e w2 ⟨rfl, hd2, hk2⟩; have HR := Lib.hid (Hs.out x (some ⟨b, o, none⟩) w2 rfl (RI.nil _ _ _) (by intro _ ad h; cases h; exact Hbk.out) hd2 hk2); clear hd2 hk2)
      exact ⟨⟨k + 1, some ⟨b, o, none⟩, [], 0, by go_num, rfl, by omega, Nat.le_refl _, by omega, (fun h => absurd rfl h), HR.out⟩, by simp [intOf]; omega⟩
    · have hcw : 1 ≤ c' := by omega
      have hl1 : (r.length : Int) + 1 ≤ 9223372036854775807 := by omega
      go_upto_region 7 with (go_at_call 48; refine (Hlo.out 0).mono ?_; rintro e w1 ⟨rfl, q, rfl⟩)
      go_quiet (fail)
      go_wp2_with (go_at_call 49; refine (Hcut.out _ _).mono ?_; rintro e w2 ⟨rfl, hd2, hk2⟩; have HR := Lib.hid (Hs.out x (some ⟨b, o + 1, none⟩) w2 rfl Hcf.out (by intro _ ad h; cases h; exact Hbk.out) hd2 hk2); clear hd2 hk2)
      exact ⟨⟨k + 1, some ⟨b, o + 1, none⟩, r, c' - 1, by go_num, rfl, by omega, by omega, by omega, (fun _ ad h => by cases h; exact Hbk.out), HR.out⟩, by simp [intOf]; omega⟩
end Go.Proofs.Ytdnlikhfemhmeaa

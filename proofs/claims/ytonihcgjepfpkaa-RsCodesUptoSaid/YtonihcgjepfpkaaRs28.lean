/-
  The second saying's Check.
-/
import Derived.Test.YtonihcgjepfpkaaRs27
import Derived.Test.YtonihcgjepfpkaaRs20
namespace Go.Proofs.Ytonihcgjepfpkaa
open Go.RowKit

set_option maxRecDepth 20000
theorem drop_two {S : Mtx} {k : Nat} {x y : List UInt8} (hS : S.length = k + 2) (hx : S[k]? = some x) (hy : S[k + 1]? = some y) : S.drop k = [x, y] := by
  apply List.ext_getElem?
  intro j
  rw [List.getElem?_drop]
  match j with
  | 0 => rw [Nat.add_zero, hx]; rfl
  | 1 => rw [hy]; rfl
  | j + 2 => rw [List.getElem?_eq_none (by omega)]; rfl
set_option maxHeartbeats 1600000 in
theorem rcheck_any (k N c : Nat) (A : Option Addr) (S : Mtx) (w : World) (h : RM w w.heap.size A S) (hN : N = S.length) (hNc : N ≤ c) (hN2 : N ≤ 40) (hk1 : 1 ≤ k) (hk2 : k ≤ 32) (hl : ∀ (t : Nat) (l : List UInt8), S[t]? = some l → l.length ≤ 1048576) :
    Calls Try.prog 19 #[.int .i64 (k : Int), .slice A N c] w fun e w' => e = .returned (.tuple #[.bool (chkA k S), .int .i64 (chkE k S)]) ∧ Below w.heap.size w w' := by
  have HT := Lib.hid (there_any k N c A S w h hN hN2 hk2 hl)
  have Hh := Lib.hid h
  have Hl := Lib.hid hl
  have HB : Hid (N = S.length ∧ N ≤ c ∧ N ≤ 40 ∧ 1 ≤ k ∧ k ≤ 32) := ⟨hN, hNc, hN2, hk1, hk2⟩
  have hk2' : (k : Int) ≤ 32 := by omega
  have hN40 : (N : Int) ≤ 40 := by omega
  clear h hl hN hNc hN2 hk1 hk2
  go_enter Try.func19, Try.ntmps19
  go_wp2_with fail
  refine HT.out.mono ?_
  rintro e w1 (⟨hf, v, rfl, hv, hb1⟩ | ⟨hf, rfl, hb1⟩)
  case inr =>
    have Hd : Hid (chkA k S = false ∧ chkE k S = 1 ∧ Below w.heap.size w w1) := by
      have : chkB k S = false := by unfold chkB; rw [hf]; rfl
      refine ⟨?_, ?_, hb1⟩
      · unfold chkA; rw [this]; rfl
      · unfold chkE; rw [this]; rfl
    clear hf hb1 HT
    go_wp2_with fail
    go_ret2
    exact ⟨by rw [Hd.out.1, Hd.out.2.1]; rfl, Hd.out.2.2⟩
  obtain ⟨Av, cv, rfl, _, _, _⟩ := hv.rd
  have hpl := part_length S S.length
  have htl : (thereL S).length = (thereK S S.length).length := rfl
  have hml : (missL S).length = (missK S S.length).length := rfl
  rw [ints_length]
  by_cases hm : (missL S).length = 0
  case neg =>
    have Hd : Hid (chkA k S = false ∧ chkE k S = 1 ∧ Below w.heap.size w w1) := by
      have : chkB k S = false := by unfold chkB; rw [decide_eq_false hm]; exact Bool.and_false _
      refine ⟨?_, ?_, hb1⟩
      · unfold chkA; rw [this]; rfl
      · unfold chkE; rw [this]; rfl
    have hlt : ((thereL S).length : Int) < (N : Int) := by have := HB.out.1; omega
    generalize (thereL S).length = tl at *
    clear hf hb1 HT hv hpl htl hml hm
    go_wp2_with fail
    go_ret2
    exact ⟨by rw [Hd.out.1, Hd.out.2.1]; rfl, Hd.out.2.2⟩
  have hcb : chkB k S = true := by unfold chkB; rw [hf, hm]; rfl
  obtain ⟨p1, p2, p3⟩ := chk_facts hcb
  have htN : (thereL S).length = N := by have := HB.out.1; omega
  rw [htN]
  obtain rfl : N = k + 2 := by have := HB.out.1; omega
  obtain ⟨n, hn⟩ : ∃ n, n = (S.headD []).length := ⟨_, rfl⟩
  rw [← hn] at p2 p3
  have hnb : n ≤ 1048576 := by rw [hn]; exact Hl.out 0 _ (head_get (by omega))
  obtain ⟨b, o, rfl, hbl⟩ := Hh.out.at_ (by omega)
  obtain ⟨x, hx⟩ : ∃ x, S[k]? = some x := ⟨_, List.getElem?_eq_getElem (by omega)⟩
  obtain ⟨y, hy⟩ : ∃ y, S[k + 1]? = some y := ⟨_, List.getElem?_eq_getElem (by omega)⟩
  have htk : (S.take k).length = k := by rw [List.length_take]; omega
  have htr : ∀ (t : Nat) (l : List UInt8), (S.take k)[t]? = some l → l.length = n := fun t l hl => by
    rw [List.getElem?_take] at hl
    split at hl
    · exact p3 t l hl
    · cases hl
  have HPar := Lib.hid (rparity_any (some ⟨b, o, none⟩) c k n (S.take k) w1 (((Hh.out.take' k).below hb1).wide hb1.size) htk.symm HB.out.2.2.2.1 (by have := HB.out; omega) p2 hnb htr)
  obtain ⟨P, hP⟩ : ∃ P, P = lin (List.replicate k 1) (S.take k) n := ⟨_, rfl⟩
  obtain ⟨Q, hQ⟩ : ∃ Q, Q = lin ((List.range k).map pwr) (S.take k) n := ⟨_, rfl⟩
  have hPQ : linM (pairsM k) (S.take k) n = [P, Q] := by rw [hP, hQ]; rfl
  have hPl : P.length = n := by rw [hP]; exact lin_length (by simp; omega) htr
  have hQl : Q.length = n := by rw [hQ]; exact lin_length (by simp; omega) htr
  rw [hPQ] at HPar
  have HV : Hid (chkA k S = decide ([P, Q] = [x, y]) ∧ chkE k S = 0) := by
    unfold chkA chkE
    rw [hcb, if_pos rfl, Bool.true_and]
    refine ⟨?_, rfl⟩
    unfold chkV
    have hpy := par_yes htk p2 htr
    have h0 := htr 0 _ (head_get (M := S.take k) (by rw [htk]; exact HB.out.2.2.2.1))
    rw [drop_two p1 hx hy, show parL k (S.take k) = linM (pairsM k) (S.take k) n by unfold parL; rw [if_pos hpy, h0], hPQ]
  have Hb1 := Lib.hid hb1
  have hkc : (k : Int) ≤ (c : Int) := by have := HB.out; omega
  obtain ⟨A1, c1, x1, x2, _⟩ := Hh.out.row hx
  obtain ⟨A2, c2, y1, y2, _⟩ := Hh.out.row hy
  have hxl := p3 k x hx
  have hyl := p3 (k + 1) y hy
  clear hf hv hpl htl hml hm hcb p1 p3 htN hx hy htk htr hP hQ hPQ HT hb1 hn
  go_wp2_with fail
  refine HPar.out.mono ?_
  rintro e w2 ⟨g, rfl, m2, b2⟩
  have hbw : Below w.heap.size w w2 := Hb1.out.trans (b2.mono Hb1.out.size)
  obtain ⟨A3, c3, u1, u2, _⟩ := (mat_rm2 m2).row (k := 0) (l := P) rfl
  obtain ⟨A4, c4, v1, v2, _⟩ := (mat_rm2 m2).row (k := 1) (l := Q) rfl
  have k1 : w2.cell? ⟨b, o + k, none⟩ = some (.slice A1 n c1) := by rw [← hxl]; exact (hbw.cell (p := ⟨b, o + k, none⟩) hbl).trans x1
  have k2 : w2.cell? ⟨b, o + (k + 1), none⟩ = some (.slice A2 n c2) := by rw [← hyl]; exact (hbw.cell (p := ⟨b, o + (k + 1), none⟩) hbl).trans y1
  have k3 : w2.cell? ⟨g, 0, none⟩ = some (.slice A3 n c3) := by rw [← hPl]; exact u1
  have k4 : w2.cell? ⟨g, 1, none⟩ = some (.slice A4 n c4) := by rw [← hQl]; exact v1
  have t1 := eql_str_conv w2 _ A1 x c1 ((x2.below hbw).wide hbw.size)
  have t2 := eql_str_conv w2 _ A2 y c2 ((y2.below hbw).wide hbw.size)
  have t3 := eql_str_conv w2 _ A3 P c3 u2
  have t4 := eql_str_conv w2 _ A4 Q c4 v2
  rw [hxl] at t1
  rw [hyl] at t2
  rw [hPl] at t3
  rw [hQl] at t4
  have Hbw := Lib.hid hbw
  clear x1 x2 y1 y2 u1 u2 v1 v2 m2 b2 hbw hxl hyl hPl hQl HPar hbl
  have hne : ∀ (l m : List UInt8), l ≠ m → ((⟨l.toArray⟩ : ByteArray).toList == (⟨m.toArray⟩ : ByteArray).toList) = false := fun l m hlm => by
    rw [eq_text]
    exact decide_eq_false fun e => hlm (by
      have := congrArg (fun s : ByteArray => s.data.toList) e
      simpa using this)
  by_cases e0 : P = x
  · subst e0
    by_cases e1 : Q = y
    · subst e1
      have Hd : Hid (chkA k S = true ∧ chkE k S = 0) := ⟨by rw [HV.out.1, decide_eq_true rfl], HV.out.2⟩
      generalize (⟨P.toArray⟩ : ByteArray) = X at t1 t3
      generalize (⟨Q.toArray⟩ : ByteArray) = Y at t2 t4
      clear hne HV
      go_wp2_with fail
      go_quiet (fail)
      go_wp2_with fail
      go_ret2
      exact ⟨by rw [Hd.out.1, Hd.out.2]; rfl, drewN_below Hbw.out _⟩
    · have Hd : Hid (chkA k S = false ∧ chkE k S = 0) := ⟨by rw [HV.out.1, decide_eq_false (fun e => e1 (List.cons.inj (List.cons.inj e).2).1)], HV.out.2⟩
      have hXY := hne Q y e1
      generalize (⟨P.toArray⟩ : ByteArray) = X at t1 t3
      generalize (⟨Q.toArray⟩ : ByteArray) = Y at t4 hXY
      generalize (⟨y.toArray⟩ : ByteArray) = Z at t2 hXY
      clear hne HV e1
      go_wp2_with fail
      go_quiet (fail)
      go_wp2_with fail
      go_ret2
      exact ⟨by rw [Hd.out.1, Hd.out.2]; rfl, drewN_below Hbw.out _⟩
  · have Hd : Hid (chkA k S = false ∧ chkE k S = 0) := ⟨by rw [HV.out.1, decide_eq_false (fun e => e0 (List.cons.inj e).1)], HV.out.2⟩
    have hXY := hne P x e0
    generalize (⟨P.toArray⟩ : ByteArray) = Y at t3 hXY
    generalize (⟨x.toArray⟩ : ByteArray) = Z at t1 hXY
    clear hne HV e0 t2 t4
    go_wp2_with fail
    go_quiet (fail)
    go_wp2_with fail
    go_ret2
    exact ⟨by rw [Hd.out.1, Hd.out.2]; rfl, drewN_below Hbw.out _⟩
end Go.Proofs.Ytonihcgjepfpkaa

/-
  MediumApart, walked.
-/
import Derived.Test.YtejimgjonhaocaaMe15
import Derived.Test.YtejimgjonhaocaaMe16
import Derived.Test.YtejimgjonhaocaaMe12
namespace Go.Proofs.Ytejimgjonhaocaa
open Go.RowKit Go.Maps Go.Lib Go.Sort

/-- a table of the law's own, k acts behind its start -/
structure ApSt (w wr : World) (tb mb dep nxt : Nat) (L : List Md) (N k : Nat) : Prop where
  tab : TabG wr tb mb dep nxt (rowG L) N
  ok : Ok dep nxt L
  hx : nxt ≤ 1 + k
  hN : N ≤ 2 * k
  bel : Below w.heap.size w wr
  h1 : w.heap.size ≤ tb
  h2 : w.heap.size ≤ mb
section
variable {w wr w' : World} {tb mb dep nxt N k : Nat} {L : List Md}
theorem ApSt.below (h : ApSt w wr tb mb dep nxt L N k) (hb : Below wr.heap.size wr w') : ApSt w w' tb mb dep nxt L N k :=
  ⟨h.tab.below hb, h.ok, h.hx, h.hN, h.bel.trans (hb.mono h.bel.size), h.h1, h.h2⟩
theorem ApSt.drewN (h : ApSt w wr tb mb dep nxt L N k) (n : Nat) : ApSt w (wr.drewN n) tb mb dep nxt L N k := h.below ⟨rfl, rfl, rfl, Nat.le_refl _, fun _ _ => rfl⟩
theorem ApSt.act (h : ApSt w wr tb mb dep nxt L N k) (x : PAct) {e : Ending} (hq : e = .returned (.tuple #[]) ∧ TabG w' tb mb dep (actN dep nxt L x) (rowG (actL dep nxt L x)) (N + 2) ∧ Kept (Off tb mb) wr w') : ApSt w w' tb mb dep (actN dep nxt L x) (actL dep nxt L x) (N + 2) (k + 1) := by
  have h1 := (actN_le dep nxt L x).2
  have h2 := h.hx
  have h3 := h.hN
  exact ⟨hq.2.1, h.ok.act x, by omega, by omega, ChAt.off h.bel h.h1 h.h2 hq.2.2, h.h1, h.h2⟩
end
/-- a slice of places of the law's own -/
structure WasAt (w wr : World) (tb mb : Nat) (v : Value) (C : List (Nat × Nat)) : Prop where
  own : OwnP wr w.heap.size v C
  nb : ∀ g, v.ownBlock = some g → g ≠ tb ∧ g ≠ mb
theorem WasAt.kept {w wr w' : World} {tb mb : Nat} {v : Value} {C : List (Nat × Nat)} (h : WasAt w wr tb mb v C) (hk : Kept (Off tb mb) wr w') : WasAt w w' tb mb v C :=
  ⟨h.own.move fun g hg => hk.block g (h.own.ge g hg).2 (h.nb g hg), h.nb⟩
theorem WasAt.below {w wr w' : World} {tb mb : Nat} {v : Value} {C : List (Nat × Nat)} (h : WasAt w wr tb mb v C) (hb : Below wr.heap.size wr w') : WasAt w w' tb mb v C :=
  ⟨h.own.move fun g hg => hb.block g (h.own.ge g hg).2, h.nb⟩
theorem WasAt.mk' {w wr w' : World} {tb mb dep nxt N k : Nat} {L : List Md} {v : Value} {C : List (Nat × Nat)} (h : ApSt w wr tb mb dep nxt L N k) (ho : OwnP w' wr.heap.size v C) : WasAt w w' tb mb v C := by
  refine ⟨ho.wide h.bel.size, fun g hg => ?_⟩
  have := (ho.ge g hg).1
  have := h.tab.tc.lt
  have := h.tab.mc.lt
  omega
theorem WasAt.at' {w wr : World} {tb mb cl c : Nat} {A : Option Addr} {C : List (Nat × Nat)} (h : WasAt w wr tb mb (.slice A cl c) C) {k : Nat} {p : Nat × Nat} (hk : C[k]? = some p) : ∃ b, A = some ⟨b, 0, none⟩ ∧ wr.cell? ⟨b, k * 2, none⟩ = some (.int .u64 (p.1 : Int)) ∧ wr.cell? ⟨b, k * 2 + 1, none⟩ = some (.int .i64 (p.2 : Int)) := by
  obtain ⟨A', c', e, _, _, q⟩ := h.own.rd
  injection e with e1 _ _
  subst e1
  obtain ⟨b, e2, _, _, c0, c1⟩ := q k p hk
  exact ⟨b, e2, c0, c1⟩
/-- is one of the first j places a medium's? -/
def hitB (C : List (Nat × Nat)) (a j : Nat) : Bool := (C.take j).any fun p => p.1 == a
theorem hitB_succ {C : List (Nat × Nat)} {a j : Nat} {p : Nat × Nat} (h : C[j]? = some p) : hitB C a (j + 1) = (hitB C a j || p.1 == a) := by
  have hj := (List.getElem?_eq_some_iff.1 h)
  obtain ⟨hlt, e⟩ := hj
  unfold hitB
  rw [List.take_succ_eq_append_getElem hlt, List.any_append, e]
  simp
theorem hitB_false {C : List (Nat × Nat)} {a : Nat} (h : hitB C a C.length = false) : ∀ p ∈ C, p.1 ≠ a := by
  unfold hitB at h
  rw [List.take_length, List.any_eq_false] at h
  intro p hp
  simpa using h p hp
section
set_option maxRecDepth 20000
set_option maxHeartbeats 3200000
theorem apart_any (d : Int) (A : Option Addr) (l : List PAct) (c : Nat) (id : Nat) (b : Int) (A2 : Option Addr) (m : List PAct) (c2 : Nat) (w : World) (hl : ActsAt w w.heap.size A l) (hm : ActsAt w w.heap.size A2 m) (hid : id < T64) :
    Calls Try.prog 5 #[.int .i64 d, .slice A l.length c, .int .u64 (id : Int), .int .i64 b, .slice A2 m.length c2] w fun e w' => e = .returned (.bool true) ∧ Below w.heap.size w w' := by
  have HK := Lib.hid (known_any w)
  obtain ⟨n1, hn1⟩ : ∃ n, n = l.length := ⟨_, rfl⟩
  obtain ⟨n2, hn2⟩ : ∃ n, n = m.length := ⟨_, rfl⟩
  rw [← hn1, ← hn2]
  have Hn1 := Lib.hid hn1
  have Hn2 := Lib.hid hn2
  have Hl := Lib.hid hl
  have Hm := Lib.hid hm
  have Hid0 := Lib.hid hid
  clear hl hm hn1 hn2 hid
  by_cases c0 : 100 < (n1 : Int)
  case pos =>
    have c0n : 100 < n1 := by omega
    go_enter Try.func5, Try.ntmps5
    go_wp2_with fail
    refine HK.out.mono ?_
    rintro e w1 ⟨rfl, hb1⟩
    have Hb1 := Lib.hid hb1
    clear hb1 HK
    go_wp2_with fail
    go_ret
    exact ⟨rfl, Hb1.out⟩
  by_cases c1 : 100 < (n2 : Int)
  case pos =>
    have c1n : 100 < n2 := by omega
    have c0n : ¬ 100 < n1 := by omega
    go_enter Try.func5, Try.ntmps5
    go_wp2_with fail
    refine HK.out.mono ?_
    rintro e w1 ⟨rfl, hb1⟩
    have Hb1 := Lib.hid hb1
    clear hb1 HK
    go_wp2_with fail
    go_ret
    exact ⟨rfl, Hb1.out⟩
  have e0 : decide (100 < (n1 : Int)) = false := decide_eq_false c0
  have e1 : decide (100 < (n2 : Int)) = false := decide_eq_false c1
  have e2 : decide (100 < n1) = false := decide_eq_false (by omega)
  have e3 : decide (100 < n2) = false := decide_eq_false (by omega)
  have Hnum : Hid (n1 ≤ 100 ∧ n2 ≤ 100) := (show _ ∧ _ from ⟨by omega, by omega⟩)
  by_cases hd : 1 ≤ d ∧ d ≤ 64
  case neg =>
    have Hbad := Lib.hid fun w => new_bad d hd w
    have c0n : ¬ 100 < n1 := by omega
    have c1n : ¬ 100 < n2 := by omega
    clear hd
    go_enter Try.func5, Try.ntmps5
    go_wp2_with fail
    refine HK.out.mono ?_
    rintro e w1 ⟨rfl, hb1⟩
    have Hb1 := Lib.hid hb1
    clear hb1 HK
    go_wp2_with fail
    refine (Hbad.out w1).mono ?_
    rintro e w2 ⟨rfl, rfl⟩
    go_wp2_with fail
    go_ret
    exact ⟨rfl, Hb1.out⟩
  obtain ⟨dep, rfl⟩ : ∃ k : Nat, d = (k : Int) := ⟨d.toNat, by omega⟩
  have Hnew := Lib.hid fun w => new_any dep (by omega) (by omega) w
  have Hdep : Hid (1 ≤ dep ∧ dep ≤ 64) := (show _ ∧ _ from ⟨by omega, by omega⟩)
  have c0n : ¬ 100 < n1 := by omega
  have c1n : ¬ 100 < n2 := by omega
  clear hd
  go_enter Try.func5, Try.ntmps5
  go_wp2_with fail
  refine HK.out.mono ?_
  rintro e w1 ⟨rfl, hb1⟩
  have Hb1 := Lib.hid hb1
  clear hb1 HK
  go_wp2_with fail
  refine (Hnew.out w1).mono ?_
  rintro e w2 ⟨tb, mb, rfl, h2, hb2, m1, m2⟩
  have H2 : Hid (ApSt w w2 tb mb dep 1 [] 0 0) := ⟨h2, ok_new Hdep.out.1 Hdep.out.2, by omega, by omega, Hb1.out.trans (hb2.mono Hb1.out.size), by have := Hb1.out.size; omega, by have := Hb1.out.size; omega⟩
  clear h2 hb2 m1 m2 Hb1 Hnew
  go_wp2_with fail
  clear c0 c1 e0 e1 e2 e3 c0n c1n
  go_loopw [13] (fun iv wr => ∃ (i nxt : Nat) (L : List Md) (N : Nat), iv = .int .i64 (i : Int) ∧ i ≤ n1 ∧ Hid (ApSt w wr tb mb dep nxt L N i)) (fun iv _ => n1 - (intOf iv).toNat)
  case atStart => exact ⟨0, 1, [], 0, rfl, Nat.zero_le _, H2⟩
  case round =>
    obtain ⟨i, nxt, L, N, rfl, hi, Hs⟩ := hrel
    by_cases hlt : i < n1
    case pos =>
      have hx := List.getElem?_eq_getElem (l := l) (by rw [← Hn1.out]; exact hlt : i < l.length)
      obtain ⟨bl, ol, rfl, hbl, hat⟩ := (Hl.out.below Hs.out.bel) i _ hx
      have k0 := hat.c0
      have k1 := hat.c1
      have k2 := hat.c2
      have k3 := hat.c3
      have k4 := hat.c4
      have hact := (act_any Hs.out.tab Hs.out.ok (by have := Hs.out.hx; have := Hnum.out; omega) (by have := Hs.out.hN; have := Hnum.out; omega) l[i] hat.ha)
      generalize l[i] = x at *
      unfold actV at hact
      have Hact := Lib.hid hact
      have hn100 : (n1 : Int) ≤ 100 := by have := Hnum.out; omega
      clear hat hbl hx hact
      go_wp2_with fail
      refine Hact.out.mono ?_
      rintro e w3 ⟨rfl, h3⟩
      have H3 := Lib.hid (Hs.out.act x ⟨rfl, h3⟩)
      clear h3 Hact Hs k0 k1 k2 k3 k4
      go_wp2_with fail
      go_roundw
      case rel => exact ⟨i + 1, _, _, _, (by first | rfl | simp), by omega, H3⟩
      case measure => simp [intOf]; omega
    case neg =>
    obtain rfl : i = n1 := by omega
    clear hlt hi H2 w2
    have hi2 : ¬ (i : Int) < (i : Int) := by omega
    have Hcn := Lib.hid (chain_any Hs.out.tab Hs.out.ok (by have := Hs.out.hx; have := Hnum.out; omega) Hid0.out b)
    clear hi2
    go_wp2_with fail
    refine Hcn.out.mono ?_
    rintro e w3 ⟨v, rfl, ov, b3⟩
    have H3 : Hid (ApSt w w3 tb mb dep nxt L N i ∧ WasAt w w3 tb mb v (chainL L id b)) := ⟨Hs.out.below b3, WasAt.mk' Hs.out ov⟩
    obtain ⟨C, hC⟩ : ∃ C, C = chainL L id b := ⟨_, rfl⟩
    rw [← hC] at H3
    have hCl : C.length ≤ 64 := by
      rw [hC]
      unfold chainL
      split
      · simp
      · exact Nat.le_trans (chainB_len Hs.out.ok.down Hs.out.ok.look_zero _ _) (Nat.le_trans (deepL_le Hs.out.ok id) Hs.out.ok.d2)
    have HC : Hid (C ≠ [] → chainL L id b = C) := fun _ => hC.symm
    obtain ⟨A3, c3, rfl, -, -, -⟩ := H3.out.2.own.rd
    obtain ⟨cl, hcl⟩ : ∃ cl, cl = C.length := ⟨_, rfl⟩
    rw [← hcl] at H3 hCl ⊢
    have Hcl := Lib.hid hcl
    have hcl64 : (cl : Int) ≤ 64 := by omega
    have hi100 : (i : Int) ≤ 100 ∧ (n2 : Int) ≤ 100 := by have := Hnum.out; omega
    clear ov b3 Hs Hcn hC hcl
    go_wp2_with fail
    generalize wr = wr0 at *
    go_loopw [15] (fun jv wr => ∃ (j nxt : Nat) (L : List Md) (N : Nat), jv = .int .i64 (j : Int) ∧ j ≤ n2 ∧ Hid (ApSt w wr tb mb dep nxt L N (i + j) ∧ WasAt w wr tb mb (.slice A3 cl c3) C ∧ (C ≠ [] → chainL L id b = C))) (fun jv _ => n2 - (intOf jv).toNat)
    case atStart => exact ⟨0, nxt, L, N, rfl, Nat.zero_le _, H3.out.1, H3.out.2, HC.out⟩
    case round =>
      obtain ⟨j, nxt, L, N, rfl, hj, Hs⟩ := hrel
      by_cases hlt : j < n2
      case pos =>
        have hx := List.getElem?_eq_getElem (l := m) (by rw [← Hn2.out]; exact hlt : j < m.length)
        obtain ⟨bm, om, rfl, hbm, hat⟩ := (Hm.out.below Hs.out.1.bel) j _ hx
        generalize m[j] = x at *
        have Hx : Hid (bm < w.heap.size ∧ ActAt wr bm (om + j * 5) x) := ⟨hbm, hat⟩
        clear hat hbm hx
        go_wp2_with fail
        generalize wr = wr1 at *
        have hn100 : (n2 : Int) ≤ 100 := hi100.2
        go_loopw [16, 17] (fun hv kv wr => ∃ (k q : Nat), kv = .int .i64 (k : Int) ∧ hv = .bool (hitB C x.a k) ∧ k ≤ cl ∧ Hid (wr = wr1.drewN q)) (fun _ kv _ => cl - (intOf kv).toNat)
        case atStart => exact ⟨0, 0, rfl, rfl, Nat.zero_le _, rfl⟩
        case round =>
          obtain ⟨k, q, rfl, rfl, hk, Hw⟩ := hrel
          by_cases hlt2 : k < cl
          case pos =>
            have hp := List.getElem?_eq_getElem (l := C) (by rw [← Hcl.out]; exact hlt2 : k < C.length)
            generalize C[k] = p at hp
            obtain ⟨b3, rfl, p0, p1⟩ := Hs.out.2.1.at' hp
            have q0 : wr.cell? ⟨b3, k * 2, none⟩ = some (.int .u64 (p.1 : Int)) := by rw [Hw.out]; exact p0
            have q1 : wr.cell? ⟨bm, om + j * 5 + 1, none⟩ = some (.int .u64 (x.a : Int)) := by rw [Hw.out]; exact Hx.out.2.c1
            have hsu := hitB_succ (a := x.a) hp
            have Hsu := Lib.hid hsu
            clear p0 p1 hp hsu
            cases hh : hitB C x.a k with
            | true =>
              rw [hh] at Hsu
              go_wp2_with fail
              go_quiet (fail)
              go_wp2_with fail
              go_roundw
              case rel => exact ⟨k + 1, q + nq, (by first | rfl | simp), by rw [Hsu.out]; rfl, by omega, Lib.hid (by rw [Hw.out, World.drewN_drewN])⟩
              case measure => simp [intOf]; omega
            | false =>
              rw [hh] at Hsu
              by_cases hpa : p.1 = x.a
              · have z1 : ((p.1 : Int) == (x.a : Int)) = true := by simp [hpa]
                have Hpa : Hid ((p.1 == x.a) = true) := (show (p.1 == x.a) = true by simp [hpa])
                rw [Hpa.out] at Hsu
                generalize p.1 = pp at *
                subst hpa
                go_wp2_with fail
                go_quiet (fail)
                go_wp2_with fail
                go_roundw
                case rel => exact ⟨k + 1, q + nq, (by first | rfl | simp), by rw [Hsu.out]; rfl, by omega, Lib.hid (by rw [Hw.out, World.drewN_drewN])⟩
                case measure => simp [intOf]; omega
              · have z1 : ((p.1 : Int) == (x.a : Int)) = false := by simp; omega
                have z2 : (p.1 == x.a) = false := by simp [hpa]
                have z3 : ¬ (p.1 : Int) = (x.a : Int) := by omega
                rw [z2] at Hsu
                go_wp2_with fail
                go_quiet (fail)
                go_wp2_with fail
                go_roundw
                case rel => exact ⟨k + 1, q + nq, (by first | rfl | simp), by rw [Hsu.out]; rfl, by omega, Lib.hid (by rw [Hw.out, World.drewN_drewN])⟩
                case measure => simp [intOf]; omega
          case neg =>
            obtain rfl : k = cl := by omega
            have hlt3 : ¬ (k : Int) < (k : Int) := by omega
            have Hs2 : Hid (ApSt w wr tb mb dep nxt L N (i + j) ∧ WasAt w wr tb mb (.slice A3 k c3) C ∧ (C ≠ [] → chainL L id b = C)) := by
              rw [Hw.out]; exact ⟨Hs.out.1.drewN q, Hs.out.2.1.below ⟨rfl, rfl, rfl, Nat.le_refl _, fun _ _ => rfl⟩, Hs.out.2.2⟩
            have Hc : Hid (ActAt wr bm (om + j * 5) x) := by
              have q1 := Hx.out.2
              rw [Hw.out]; exact ⟨q1.c0, q1.c1, q1.c2, q1.c3, q1.c4, q1.ha⟩
            have k0 := Hc.out.c0
            have hjn : (j : Int) < (n2 : Int) := by omega
            clear Hs Hw hlt2 hk hlt3
            cases hh : hitB C x.a k with
            | false =>
              have Hall := Lib.hid (hitB_false (a := x.a) (by rw [← Hcl.out]; exact hh))
              clear hh
              have hact := act_any Hs2.out.1.tab Hs2.out.1.ok (by have := Hs2.out.1.hx; have := Hnum.out; omega) (by have := Hs2.out.1.hN; have := Hnum.out; omega) x Hx.out.2.ha
              unfold actV at hact
              have Hact := Lib.hid hact
              have k1 := Hc.out.c1
              have k2 := Hc.out.c2
              have k3 := Hc.out.c3
              have k4 := Hc.out.c4
              clear hact Hx
              go_wp2_with fail
              refine Hact.out.mono ?_
              rintro e w4 ⟨rfl, h4⟩
              have H4 : Hid (ApSt w w4 tb mb dep (actN dep nxt L x) (actL dep nxt L x) (N + 2) (i + (j + 1)) ∧ WasAt w w4 tb mb (.slice A3 k c3) C ∧ (C ≠ [] → chainL (actL dep nxt L x) id b = C)) :=
                ⟨Hs2.out.1.act x ⟨rfl, h4⟩, Hs2.out.2.1.kept h4.2, fun hne => by
                  have e := Hs2.out.2.2 hne
                  rw [chain_act Hs2.out.1.ok x id b (by rw [e]; exact .inl Hall.out) (by rw [e]; exact hne), e]⟩
              clear h4 Hact Hs2 Hc k0 k1 k2 k3 k4
              go_wp2_with fail
              go_roundw
              case rel => exact ⟨j + 1, _, _, _, (by first | rfl | simp), by omega, H4⟩
              case measure => simp [intOf]; omega
            | true =>
              clear hh
              by_cases hop : x.op ≤ 2
              case pos =>
                have hact := act_any Hs2.out.1.tab Hs2.out.1.ok (by have := Hs2.out.1.hx; have := Hnum.out; omega) (by have := Hs2.out.1.hN; have := Hnum.out; omega) x Hx.out.2.ha
                unfold actV at hact
                have Hact := Lib.hid hact
                have k1 := Hc.out.c1
                have k2 := Hc.out.c2
                have k3 := Hc.out.c3
                have k4 := Hc.out.c4
                clear hact Hx
                go_wp2_with fail
                refine Hact.out.mono ?_
                rintro e w4 ⟨rfl, h4⟩
                have H4 : Hid (ApSt w w4 tb mb dep (actN dep nxt L x) (actL dep nxt L x) (N + 2) (i + (j + 1)) ∧ WasAt w w4 tb mb (.slice A3 k c3) C ∧ (C ≠ [] → chainL (actL dep nxt L x) id b = C)) :=
                  ⟨Hs2.out.1.act x ⟨rfl, h4⟩, Hs2.out.2.1.kept h4.2, fun hne => by
                    have e := Hs2.out.2.2 hne
                    rw [chain_act Hs2.out.1.ok x id b (by rw [e]; exact .inr hop) (by rw [e]; exact hne), e]⟩
                clear h4 Hact Hs2 Hc k0 k1 k2 k3 k4
                go_wp2_with fail
                go_roundw
                case rel => exact ⟨j + 1, _, _, _, (by first | rfl | simp), by omega, H4⟩
                case measure => simp [intOf]; omega
              case neg =>
                have Hs3 : Hid (ApSt w wr tb mb dep nxt L N (i + (j + 1)) ∧ WasAt w wr tb mb (.slice A3 k c3) C ∧ (C ≠ [] → chainL L id b = C)) := by
                  have h := Hs2.out.1
                  exact ⟨⟨h.tab, h.ok, by have := h.hx; omega, by have := h.hN; omega, h.bel, h.h1, h.h2⟩, Hs2.out.2⟩
                clear Hs2 Hc Hx
                go_wp2_with fail
                go_roundw
                case rel => exact ⟨j + 1, nxt, L, N, (by first | rfl | simp), by omega, Hs3⟩
                case measure => simp [intOf]; omega
      case neg =>
      obtain rfl : j = n2 := by omega
      have hlt3 : ¬ (j : Int) < (j : Int) := by omega
      have Hcn2 := Lib.hid (chain_any Hs.out.1.tab Hs.out.1.ok (by have := Hs.out.1.hx; have := Hnum.out; omega) Hid0.out b)
      generalize wr = wr1 at *
      clear hlt3
      go_wp2_with fail
      refine Hcn2.out.mono ?_
      rintro e w5 ⟨v2, rfl, ov2, b5⟩
      have H5 : Hid (ApSt w w5 tb mb dep nxt L N (i + j) ∧ WasAt w w5 tb mb (.slice A3 cl c3) C) := ⟨Hs.out.1.below b5, Hs.out.2.1.below b5⟩
      obtain ⟨A5, c5, rfl, -, -, -⟩ := ov2.rd
      by_cases h0 : cl = 0
      case pos =>
        subst h0
        have Hb := Lib.hid H5.out.1.bel
        clear Hs H5 ov2 b5
        go_wp2_with fail
        go_ret
        exact ⟨rfl, Hb.out⟩
      case neg =>
        have hCne : C ≠ [] := fun e => h0 (by rw [Hcl.out, e]; rfl)
        have hC2 := Hs.out.2.2 hCne
        rw [hC2] at ov2 ⊢
        rw [← Hcl.out] at ov2 ⊢
        have Ho : Hid (WasAt w w5 tb mb (.slice A5 cl c5) C) := WasAt.mk' Hs.out.1 ov2
        have hc0 : ¬ (cl : Int) = 0 := by omega
        clear Hs ov2 b5 Hcn2 hC2 hCne
        go_wp2_with fail
        have eg := Try.eqGuardType60
        go_loopw [19] (fun kv wr => ∃ (k q : Nat), kv = .int .i64 (k : Int) ∧ k ≤ cl ∧ Hid (wr = w5.drewN q)) (fun kv _ => cl - (intOf kv).toNat)
        case atStart => exact ⟨0, 0, rfl, Nat.zero_le _, rfl⟩
        case round =>
          obtain ⟨k, q, rfl, hk, Hw⟩ := hrel
          by_cases hlt2 : k < cl
          case pos =>
            have hp := List.getElem?_eq_getElem (l := C) (by rw [← Hcl.out]; exact hlt2 : k < C.length)
            generalize C[k] = p at hp
            obtain ⟨b3, rfl, p0, p1⟩ := H5.out.2.at' hp
            obtain ⟨b4, rfl, p2, p3⟩ := Ho.out.at' hp
            have q0 : wr.cell? ⟨b3, k * 2, none⟩ = some (.int .u64 (p.1 : Int)) := by rw [Hw.out]; exact p0
            have q1 : wr.cell? ⟨b3, k * 2 + 1, none⟩ = some (.int .i64 (p.2 : Int)) := by rw [Hw.out]; exact p1
            have q2 : wr.cell? ⟨b4, k * 2, none⟩ = some (.int .u64 (p.1 : Int)) := by rw [Hw.out]; exact p2
            have q3 : wr.cell? ⟨b4, k * 2 + 1, none⟩ = some (.int .i64 (p.2 : Int)) := by rw [Hw.out]; exact p3
            clear p0 p1 p2 p3 hp
            go_wp2_with fail
            go_quiet (fail)
            go_wp2_with fail
            go_roundw
            case rel => exact ⟨k + 1, q + nq, (by first | rfl | simp), by omega, Lib.hid (by rw [Hw.out, World.drewN_drewN])⟩
            case measure => simp [intOf]; omega
          case neg =>
            obtain rfl : k = cl := by omega
            have Hb : Hid (Below w.heap.size w wr) := by rw [Hw.out]; exact (H5.out.1.drewN q).bel
            clear Hw H5 Ho hlt2 hk
            go_wp2_with fail
            go_ret
            exact ⟨rfl, Hb.out⟩
end
end Go.Proofs.Ytejimgjonhaocaa

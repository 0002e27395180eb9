/-
  NvramFronts, walked.
-/
import Derived.Test.YtndahmhnadmmaaaNv18
namespace Go.Proofs.Ytndahmhnadmmaaa
open Go.RowKit

/-- what a round of the law's loops needs -/
def Round (w0 : World) (pw nv rd c : Nat) (A : Option Addr) (l : List PAct) : Prop :=
  ∀ (k : Nat) wr, k < l.length → Inv w0 pw nv rd c k wr → ∃ x b o Ax cx, A = some ⟨b, o, none⟩ ∧ RowAt wr b (o + k * 5) Ax cx x ∧ b < wr.heap.size ∧ (∀ W, Below w0.heap.size w0 W → RowAt W b (o + k * 5) Ax cx x) ∧
    ((∀ q, Calls Try.prog 10 #[.pointer (some ⟨rd, 0, none⟩), .int .i64 x.place, .int .i64 (x.bytes.length : Int)] (wr.drewN q) (fun e w' => e = .returned (.bool false) ∧ wr.drewN q = w')) ∧ (∀ q, Inv w0 pw nv rd c (k + 1) (wr.drewN q)) ∨
    (∀ q, Calls Try.prog 10 #[.pointer (some ⟨rd, 0, none⟩), .int .i64 x.place, .int .i64 (x.bytes.length : Int)] (wr.drewN q) (fun e w' => e = .returned (.bool true) ∧ wr.drewN q = w')) ∧
      ∀ q, Calls Try.prog 12 #[.pointer (some ⟨nv, 0, none⟩), .int .i64 x.place, .slice (some ⟨wr.heap.size, 0, none⟩) 1 1] ((wr.drewN q).alloc (.cells #[.slice Ax x.bytes.length cx] 35)) fun e w2 => e = .returned (.int .i64 0) ∧ Below w0.heap.size w0 w2 ∧
        ∀ q, Calls Try.prog 13 #[.pointer (some ⟨rd, 0, none⟩), .int .i64 x.place, .slice Ax x.bytes.length cx] (w2.drewN q) fun e w3 => e = .returned (.tuple #[]) ∧ Inv w0 pw nv rd c (k + 1) w3)
theorem round_of (w0 : World) (c : Nat) (A : Option Addr) (l : List PAct) (h : ActsAt w0 A l) (hf : fewB l = true) (hc : c ≤ 1000) (pw nv rd : Nat) : Round w0 pw nv rd c A l := by
  intro k wr hk hi
  obtain ⟨f1, f2⟩ := fewB_len hf
  have hx := List.getElem?_eq_getElem hk
  obtain ⟨b, o, rfl, hlt, g0, g1, g2, ⟨A1, c1, g3, r3, x3⟩, _⟩ := h k _ hx
  have hrow : RowAt w0 b (o + k * 5) A1 c1 l[k] := ⟨g1, g3⟩
  refine ⟨l[k], b, o, A1, c1, rfl, hi.row hlt hrow, Nat.lt_of_lt_of_le hlt hi.bel.size, fun W hb => ⟨(hb.cell (p := ⟨b, _, none⟩) hlt).trans g1, (hb.cell (p := ⟨b, _, none⟩) hlt).trans g3⟩, ?_⟩
  have hst := fun q => (hi.drewN q).step (cp := c1) (by omega) hc r3 (f2 k _ hx)
  by_cases hh : hasB 100 l[k].place (l[k].bytes.length : Int) = true
  · refine .inr ⟨fun q => ?_, fun q => ?_⟩
    · rcases hst q with ⟨e, _⟩ | ⟨_, p1, _⟩
      · rw [hh] at e; cases e
      · exact p1
    · rcases hst q with ⟨e, _⟩ | ⟨_, _, p1⟩
      · rw [hh] at e; cases e
      · exact p1
  · refine .inl ⟨fun q => ?_, fun q => ?_⟩
    · rcases hst q with ⟨_, p1, _⟩ | ⟨e, _⟩
      · exact p1
      · exact absurd e hh
    · rcases hst q with ⟨_, _, p1⟩ | ⟨e, _⟩
      · exact p1
      · exact absurd e hh

set_option maxRecDepth 20000 in
set_option maxHeartbeats 8000000 in
theorem fronts_any (A1 : Option Addr) (c1 : Nat) (l1 : List PAct) (A2 : Option Addr) (c2 : Nat) (l2 : List PAct) (pick : Int) (w : World) (h1 : ActsAt w A1 l1) (h2 : ActsAt w A2 l2) (hl1 : l1.length ≤ 1048576) (hl2 : l2.length ≤ 1048576)
    (hb1 : ∀ (k : Nat) (x : PAct), l1[k]? = some x → x.bytes.length ≤ 1048576 ∧ x.picks.length ≤ 1048576) (hb2 : ∀ (k : Nat) (x : PAct), l2[k]? = some x → x.bytes.length ≤ 1048576 ∧ x.picks.length ≤ 1048576) :
    Calls Try.prog 4 #[.slice A1 l1.length c1, .slice A2 l2.length c2, .int .i64 pick] w fun e w' => e = .returned (.bool true) ∧ Below w.heap.size w w' := by
  have Hkn := Lib.hid (known_any w)
  have HF1 : Hid (∀ w1, Below w.heap.size w w1 → Calls Try.prog 6 #[.slice A1 l1.length c1] w1 fun e w' => e = .returned (.bool (fewB l1)) ∧ ∃ q, w' = w1.drewN q) := fun w1 hb => few_any A1 c1 l1 w1 (h1.below hb) hl1 hb1
  have HF2 : Hid (∀ w1, Below w.heap.size w w1 → Calls Try.prog 6 #[.slice A2 l2.length c2] w1 fun e w' => e = .returned (.bool (fewB l2)) ∧ ∃ q, w' = w1.drewN q) := fun w1 hb => few_any A2 c2 l2 w1 (h2.below hb) hl2 hb2
  have Hdr : Hid (∀ (w1 : World) (q : Nat), Below w.heap.size w w1 → Below w.heap.size w (w1.drewN q)) := fun w1 q hb => ⟨hb.os, hb.tape, hb.output, hb.size, hb.block⟩
  have HR1 : Hid (∀ w3, Below w.heap.size w w3 → fewB l1 = true → ∀ pw nv rd, Round w3 pw nv rd 0 A1 l1) := fun w3 hb hf => round_of w3 0 A1 l1 (h1.below hb) hf (by omega)
  obtain ⟨cc, hcc⟩ : ∃ cc, cc = 0 + l1.length + 1 := ⟨_, rfl⟩
  have HR2 : Hid (∀ w3, Below w.heap.size w w3 → fewB l1 = true → fewB l2 = true → ∀ pw nv rd, Round w3 pw nv rd cc A2 l2) := fun w3 hb hf1 hf => round_of w3 _ A2 l2 (h2.below hb) hf (by have := (fewB_len hf1).1; omega)
  have Hcc : Hid (0 + l1.length + 1 = cc) := hcc.symm
  clear hcc
  have HL1 : Hid (fewB l1 = true → l1.length ≤ 300) := fun h => (fewB_len h).1
  have HL2 : Hid (fewB l2 = true → l2.length ≤ 300) := fun h => (fewB_len h).1
  obtain ⟨N1, hN1⟩ : ∃ N, N = l1.length := ⟨_, rfl⟩
  obtain ⟨N2, hN2⟩ : ∃ N, N = l2.length := ⟨_, rfl⟩
  have N1e := Lib.hid hN1
  have N2e := Lib.hid hN2
  rw [← hN1] at HF1 Hcc HL1 ⊢
  rw [← hN2] at HF2 HL2 ⊢
  have hn1 : (N1 : Int) ≤ 1048576 := by omega
  have hn2 : (N2 : Int) ≤ 1048576 := by omega
  clear h1 h2 hl1 hl2 hb1 hb2 hN1 hN2
  rcases hf1 : fewB l1 with _ | _
  · rw [hf1] at HF1
    clear HR1 HR2 HL1 HL2 HF2
    go_enter Try.func4, Try.ntmps4
    go_wp2_with fail
    refine Hkn.out.mono ?_
    rintro e w1 ⟨rfl, hb1⟩
    have Hb1 := Lib.hid hb1
    have Hf := Lib.hid (HF1.out w1 hb1)
    clear hb1
    go_wp2_with (go_at_call 6; refine Hf.out.mono ?_; rintro e w2 ⟨rfl, q, rfl⟩)
    go_ret
    exact ⟨rfl, Hdr.out _ _ Hb1.out⟩
  rcases hf2 : fewB l2 with _ | _
  · rw [hf1] at HF1
    rw [hf2] at HF2
    clear HR1 HR2 HL1 HL2
    go_enter Try.func4, Try.ntmps4
    go_wp2_with fail
    refine Hkn.out.mono ?_
    rintro e w1 ⟨rfl, hb1⟩
    have Hb1 := Lib.hid hb1
    have Hf := Lib.hid (HF1.out w1 hb1)
    clear hb1
    go_wp2_with fail
    refine Hf.out.mono ?_
    rintro e w2 ⟨rfl, q, rfl⟩
    have Hf2 := Lib.hid (HF2.out _ (Hdr.out _ q Hb1.out))
    go_wp2_with (go_at_call 6; refine Hf2.out.mono ?_; rintro e w2 ⟨rfl, q2, rfl⟩)
    go_ret
    exact ⟨rfl, Hdr.out w1 (q + q2) Hb1.out⟩
  rw [hf1] at HF1
  rw [hf2] at HF2
  have hm1 := HL1.out hf1
  have hm2 := HL2.out hf2
  have Hf1 := Lib.hid hf1
  have Hf2 := Lib.hid hf2
  clear HL1 HL2 hf1 hf2
  go_enter Try.func4, Try.ntmps4
  go_wp2_with fail
  refine Hkn.out.mono ?_
  rintro e w1 ⟨rfl, hb1⟩
  have Hb1 := Lib.hid hb1
  have Hf := Lib.hid (HF1.out w1 hb1)
  clear hb1
  go_wp2_with fail
  refine Hf.out.mono ?_
  rintro e w2 ⟨rfl, q, rfl⟩
  have Hfb := Lib.hid (HF2.out _ (Hdr.out _ q Hb1.out))
  go_wp2_with fail
  refine Hfb.out.mono ?_
  rintro e w2 ⟨rfl, q2, rfl⟩
  have Hb3 := Lib.hid (Hdr.out _ q2 (Hdr.out _ q Hb1.out))
  generalize (w1.drewN q).drewN q2 = w3 at *
  have HRa := HR1.out w3 Hb3.out Hf1.out
  have HRb := HR2.out w3 Hb3.out Hf1.out Hf2.out
  clear Hfb Hf Hb1 HF1 HF2 Hkn HR1 HR2
  have Hpn := Lib.hid (begin_solo w3)
  go_wp2_with fail
  refine Hpn.out.mono ?_
  rintro e w4 ⟨rfl, hp4, hb4⟩
  have Hn : Hid (Calls Try.prog 8 #[.pointer (some ⟨w3.heap.size, 0, none⟩), .int .i64 100] w4 fun e w' => ∃ nv, e = .returned (.tuple #[.pointer (some ⟨nv, 0, none⟩), .int .i64 0]) ∧ Solo w3 w3.heap.size nv (Pk 0) (Dev.new 100) w') := begin_nv w3 w4 100 hp4 hb4 (by decide) (by decide)
  clear hp4 hb4 Hpn
  go_wp2_with fail
  refine Hn.out.mono ?_
  rintro e w5 ⟨nv, rfl, hs5⟩
  have Hr : Hid (Calls Try.prog 9 #[.int .i64 100] w5 fun e w' => ∃ rd, e = .returned (.tuple #[.pointer (some ⟨rd, 0, none⟩), .int .i64 0]) ∧ Rig w3 w3.heap.size nv rd (Pk 0) (Dev.new 100) (Ref.new 100) w') := rig_new hs5 (by decide) (by decide)
  clear hs5 Hn
  go_wp2_with fail
  refine Hr.out.mono ?_
  rintro e w6 ⟨rd, rfl, hr6⟩
  have Hi0 : Hid (Inv w3 w3.heap.size nv rd 0 0 w6) := ⟨0, _, _, hr6, Alike.new 100, by show (List.replicate 100 _).length = 100; rw [List.length_replicate], Nat.le_refl _, Nat.zero_le _⟩
  have Ra := Lib.hid (HRa w3.heap.size nv rd)
  have Rb := Lib.hid (HRb w3.heap.size nv rd)
  clear hr6 Hr HRa HRb
  generalize w3.heap.size = pw at *
  go_wp2_with fail
  go_loopw [11] (fun iv wr => ∃ k : Nat, iv = .int .i64 (k : Int) ∧ k ≤ N1 ∧ Hid (Inv w3 pw nv rd 0 k wr)) (fun iv _ => N1 - (intOf iv).toNat)
  case atStart => exact ⟨0, rfl, Nat.zero_le _, Hi0.out⟩
  case round =>
    obtain ⟨k, rfl, hk, hrel⟩ := hrel
    by_cases hlt : k < N1
    case pos =>
      obtain ⟨x, b, o, Ax, cx, rfl, ⟨s1, s3⟩, hbl, hrows, hcase⟩ := Ra.out k wr (by have := N1e.out; omega) hrel.out
      have Hrows := Lib.hid hrows
      have HZ : Hid (∀ o9 : Obj, (wr.alloc o9).cell? ⟨b, o + k * 5 + 1, none⟩ = some (.int .i64 x.place) ∧ (wr.alloc o9).cell? ⟨b, o + k * 5 + 3, none⟩ = some (.slice Ax x.bytes.length cx)) := fun o9 => ⟨(World.cell?_alloc_lt wr o9 ⟨b, _, none⟩ hbl).trans s1, (World.cell?_alloc_lt wr o9 ⟨b, _, none⟩ hbl).trans s3⟩
      have hk' : (k : Int) < (N1 : Int) := by omega
      unfold RowAt at Hrows
      clear hrows
      rcases hcase with ⟨hft, hin⟩ | ⟨hft, hwr⟩
      · have Hft := Lib.hid hft
        have Hin := Lib.hid hin
        generalize x.place = pl at *
        generalize x.bytes.length = m at *
        clear hft hin hlt
        go_wp2_with fail
        go_region_held3 (fun W => W.cell? ⟨b, o + k * 5 + 1, none⟩ = some (.int .i64 pl) ∧ W.cell? ⟨b, o + k * 5 + 3, none⟩ = some (.slice Ax m cx)) (first | exact ⟨s1, s3⟩) (first
        | (go_at_call 10; refine (Hft.out _).mono ?_; rintro e w4 ⟨rfl, rfl⟩))
        all_goals
          go_wp2_with fail
          go_roundw
          case rel => exact ⟨k + 1, by go_num, by omega, Hin.out _⟩
          case measure => simp [intOf]; omega
      · have Hft := Lib.hid hft
        have Hwr := Lib.hid hwr
        generalize x.place = pl at *
        generalize x.bytes.length = m at *
        clear hft hwr hlt
        go_wp2_with fail
        go_region_held3 (fun W => W.cell? ⟨b, o + k * 5 + 1, none⟩ = some (.int .i64 pl) ∧ W.cell? ⟨b, o + k * 5 + 3, none⟩ = some (.slice Ax m cx)) (first | exact ⟨s1, s3⟩) (first
        | (go_at_call 10; refine (Hft.out _).mono ?_; rintro e w4 ⟨rfl, rfl⟩))
        all_goals
          go_wp2_with fail
          go_region_held3 (fun W => W.cell? ⟨b, o + k * 5 + 1, none⟩ = some (.int .i64 pl) ∧ W.cell? ⟨b, o + k * 5 + 3, none⟩ = some (.slice Ax m cx)) (first | exact ⟨s1, s3⟩ | exact HZ.out _ | exact ⟨t1, t3⟩)
            (first | (go_at_call 12; refine (Hwr.out _).mono ?_; rintro e w5 ⟨rfl, hb5, hnx⟩; obtain ⟨t1, t3⟩ := Hrows.out w5 hb5; have Hnx := Lib.hid hnx; clear hnx))
          all_goals
            go_wp2_with fail
            go_region_held3 (fun W => W.cell? ⟨b, o + k * 5 + 1, none⟩ = some (.int .i64 pl) ∧ W.cell? ⟨b, o + k * 5 + 3, none⟩ = some (.slice Ax m cx)) (first | exact ⟨t1, t3⟩ | exact ⟨u1, u3⟩)
              (first | (go_at_call 13; refine (Hnx.out _).mono ?_; rintro e w6 ⟨rfl, hi6⟩; obtain ⟨u1, u3⟩ := Hrows.out w6 hi6.bel; have Hi6 := Lib.hid hi6; clear hi6))
            all_goals
              go_wp2_with fail
              go_roundw
              case rel => exact ⟨k + 1, by go_num, by omega, Hi6.out⟩
              case measure => simp [intOf]; omega

    obtain rfl : k = N1 := by omega
    have Hp := Lib.hid (hrel.out.persist hm1 (by omega))
    rw [Hcc.out] at Hp
    clear hlt hrel Ra Hi0
    go_wp2_with fail
    refine Hp.out.mono ?_
    rintro e w7 ⟨rfl, hp7⟩
    have Hp7 := Lib.hid hp7
    clear hp7 Hp
    go_wp2_with fail
    refine Hp7.out.mono ?_
    rintro e w8 ⟨rfl, hi8⟩
    have Hi8 := Lib.hid hi8
    clear hi8 Hp7
    go_wp2_with fail
    go_loopw [12] (fun iv wr => ∃ k : Nat, iv = .int .i64 (k : Int) ∧ k ≤ N2 ∧ Hid (Inv w3 pw nv rd cc k wr)) (fun iv _ => N2 - (intOf iv).toNat)
    case atStart => exact ⟨0, rfl, Nat.zero_le _, Hi8.out⟩
    case round =>
      obtain ⟨k, rfl, hk, hrel⟩ := hrel
      by_cases hlt : k < N2
      case pos =>
        obtain ⟨x, b, o, Ax, cx, rfl, ⟨s1, s3⟩, hbl, hrows, hcase⟩ := Rb.out k wr (by have := N2e.out; omega) hrel.out
        have Hrows := Lib.hid hrows
        have HZ : Hid (∀ o9 : Obj, (wr.alloc o9).cell? ⟨b, o + k * 5 + 1, none⟩ = some (.int .i64 x.place) ∧ (wr.alloc o9).cell? ⟨b, o + k * 5 + 3, none⟩ = some (.slice Ax x.bytes.length cx)) := fun o9 => ⟨(World.cell?_alloc_lt wr o9 ⟨b, _, none⟩ hbl).trans s1, (World.cell?_alloc_lt wr o9 ⟨b, _, none⟩ hbl).trans s3⟩
        have hk' : (k : Int) < (N2 : Int) := by omega
        unfold RowAt at Hrows
        clear hrows
        rcases hcase with ⟨hft, hin⟩ | ⟨hft, hwr⟩
        · have Hft := Lib.hid hft
          have Hin := Lib.hid hin
          generalize x.place = pl at *
          generalize x.bytes.length = m at *
          clear hft hin hlt
          go_wp2_with fail
          go_region_held3 (fun W => W.cell? ⟨b, o + k * 5 + 1, none⟩ = some (.int .i64 pl) ∧ W.cell? ⟨b, o + k * 5 + 3, none⟩ = some (.slice Ax m cx)) (first | exact ⟨s1, s3⟩) (first
          | (go_at_call 10; refine (Hft.out _).mono ?_; rintro e w4 ⟨rfl, rfl⟩))
          all_goals
            go_wp2_with fail
            go_roundw
            case rel => exact ⟨k + 1, by go_num, by omega, Hin.out _⟩
            case measure => simp [intOf]; omega
        · have Hft := Lib.hid hft
          have Hwr := Lib.hid hwr
          generalize x.place = pl at *
          generalize x.bytes.length = m at *
          clear hft hwr hlt
          go_wp2_with fail
          go_region_held3 (fun W => W.cell? ⟨b, o + k * 5 + 1, none⟩ = some (.int .i64 pl) ∧ W.cell? ⟨b, o + k * 5 + 3, none⟩ = some (.slice Ax m cx)) (first | exact ⟨s1, s3⟩) (first
          | (go_at_call 10; refine (Hft.out _).mono ?_; rintro e w4 ⟨rfl, rfl⟩))
          all_goals
            go_wp2_with fail
            go_region_held3 (fun W => W.cell? ⟨b, o + k * 5 + 1, none⟩ = some (.int .i64 pl) ∧ W.cell? ⟨b, o + k * 5 + 3, none⟩ = some (.slice Ax m cx)) (first | exact ⟨s1, s3⟩ | exact HZ.out _ | exact ⟨t1, t3⟩)
              (first | (go_at_call 12; refine (Hwr.out _).mono ?_; rintro e w5 ⟨rfl, hb5, hnx⟩; obtain ⟨t1, t3⟩ := Hrows.out w5 hb5; have Hnx := Lib.hid hnx; clear hnx))
            all_goals
              go_wp2_with fail
              go_region_held3 (fun W => W.cell? ⟨b, o + k * 5 + 1, none⟩ = some (.int .i64 pl) ∧ W.cell? ⟨b, o + k * 5 + 3, none⟩ = some (.slice Ax m cx)) (first | exact ⟨t1, t3⟩ | exact ⟨u1, u3⟩)
                (first | (go_at_call 13; refine (Hnx.out _).mono ?_; rintro e w6 ⟨rfl, hi6⟩; obtain ⟨u1, u3⟩ := Hrows.out w6 hi6.bel; have Hi6 := Lib.hid hi6; clear hi6))
              all_goals
                go_wp2_with fail
                go_roundw
                case rel => exact ⟨k + 1, by go_num, by omega, Hi6.out⟩
                case measure => simp [intOf]; omega


      obtain rfl : k = N2 := by omega
      obtain ⟨np, hnp, hpd, hcut⟩ := hrel.out.finish hm2 pick
      have Hpd := Lib.hid hpd
      have Hcut := Lib.hid hcut
      clear hlt hrel hpd hcut Rb Hi8
      go_wp2_with fail
      refine Hpd.out.mono ?_
      rintro e w9 ⟨rfl, rfl⟩
      go_wp2_with fail
      refine Hcut.out.mono ?_
      rintro e w10 ⟨rfl, hrd⟩
      have Hrd := Lib.hid hrd
      clear hrd Hcut Hpd
      go_wp2_with fail
      refine Hrd.out.mono ?_
      rintro e w11 ⟨Ab, cb, rfl, Ak, Al, ck, cl, K, L, kk, hend⟩
      have He := Lib.hid hend
      have e0 := hend.k0
      have e1 := hend.k1
      have Hpe := Lib.hid hend.pend
      have hnp' : (np : Int) ≤ 1500000 := by omega
      have Hr0 := Lib.hid hend.rk
      have HlK := Lib.hid hend.lk
      have hrdl := hend.lt
      have hkl := hend.kl
      clear hend Hrd
      go_wp2_with (first
        | (go_at_call 20; refine Hpe.out.mono ?_; rintro e w12 ⟨rfl, rfl⟩)
        | (at_builtin; refine app_bytes rfl (.tmp 161) (.tmp 165) rfl w11.heap.size _ [] rfl (Own.made w11 _ (Nat.le_refl _)) _ Ak 100 ck K rfl HlK.out.symm (Hr0.out.alloc (Nat.le_refl _) _) (by have := HlK.out; simp; omega) (by simp) ?_; intro v1 w13 hown1 hbel1 _))
      rw [List.nil_append] at hown1
      obtain ⟨g, cg, hv1, hg, _, hgc, _⟩ := Own.form hown1 (by have := HlK.out; omega)
      rw [HlK.out] at hv1 hgc
      subst hv1
      have Hst : Hid (Own w13 w11.heap.size (.slice (some ⟨g, 0, none⟩) 100 cg) (lay K (L.take 0)) ∧ Below w11.heap.size w11 w13) := ⟨hown1, ((Below.refl _ _).alloc (Nat.le_refl _) _).trans hbel1⟩
      clear hown1 hbel1
      have Hal : Hid (∀ j, (lay K (L.take j)).length = 100) := fun j => by rw [lay_length]; exact HlK.out
      have Hfin : Hid (∀ wr, Below w11.heap.size w11 wr → Below w.heap.size w wr) := fun wr hb => Hb3.out.trans ((He.out.bel.trans (hb.mono He.out.bel.size)).mono Hb3.out.size)
      have Htx : Hid (∀ wr j, Own wr w11.heap.size (.slice (some ⟨g, 0, none⟩) 100 cg) (lay K (L.take j)) → Below w11.heap.size w11 wr → (convert 35 9 (.slice (some ⟨g, 0, none⟩) 100 cg)).run Try.prog wr = .ok (.string ⟨(lay K (L.take j)).toArray⟩) wr ∧ (convert 35 9 (.slice Ab 100 cb)).run Try.prog wr = .ok (.string ⟨(lay K (L.take kk)).toArray⟩) wr) := by
        intro wr j ho hb
        obtain ⟨A9, c9, e9, _, hr9, _⟩ := Own.rb ho
        rw [Hal.out] at e9
        cases e9
        have t1 := text_run wr _ _ _ cg hr9
        rw [Hal.out] at t1
        have t2 := text_run wr _ _ _ cb (He.out.rb.below hb)
        rw [Hal.out] at t2
        exact ⟨t1, t2⟩
      go_loopw [16] (fun iv wr => ∃ k : Nat, iv = .int .i64 (k : Int) ∧ k ≤ kk ∧ Hid (Own wr w11.heap.size (.slice (some ⟨g, 0, none⟩) 100 cg) (lay K (L.take k)) ∧ Below w11.heap.size w11 wr)) (fun iv _ => kk - (intOf iv).toNat)
      case atStart => exact ⟨0, rfl, Nat.zero_le _, Hst.out⟩
      case round =>
        obtain ⟨j, rfl, hj, hrel⟩ := hrel
        obtain ⟨ho, hb⟩ := hrel.out
        obtain ⟨tx1, tx2⟩ := Htx.out wr j ho hb
        have Hbf := Lib.hid (Hfin.out wr hb)
        by_cases heq : (⟨(lay K (L.take j)).toArray⟩ : ByteArray) = ⟨(lay K (L.take kk)).toArray⟩
        · rw [heq] at tx1
          clear ho hb
          go_wp2_with fail
          go_ret
          exact ⟨rfl, Hbf.out⟩
        have hjk : j < kk := by
          rcases Nat.lt_or_ge j kk with q | q
          · exact q
          · exact absurd (by rw [show j = kk by omega]) heq
        have d1 := (hb.cell (p := ⟨rd, 1, none⟩) hrdl).trans e1
        obtain ⟨p, hp⟩ : ∃ p, L[j]? = some p := ⟨_, List.getElem?_eq_getElem (by have := He.out.ll; omega)⟩
        obtain ⟨hpl, b, rfl, hbl, r1, r2⟩ := He.out.rows j p hp
        have s1 := (hb.cell (p := ⟨b, j * 2, none⟩) hbl).trans r1
        have s2 := (hb.cell (p := ⟨b, j * 2 + 1, none⟩) hbl).trans r2
        have hcg : ∃ u, wr.cell? ⟨g, p.1, none⟩ = some u := by
          have := World.ownsRow.cellAt (w := wr) (base := w11.heap.size) (e := 5) (size := 1) (g := g) (n := 100) (cap := cg) (xs := bvs (lay K (L.take j))) (by have := ho; unfold Own at this; rw [Hal.out] at this; exact this) p.1 (by omega)
          exact ⟨_, this.trans (List.getElem?_eq_getElem (by rw [bvs_length, Hal.out]; omega))⟩
        obtain ⟨ug, hcg⟩ := hcg
        have hfg : wr.frozen? ⟨g, p.1, none⟩ = false := World.ownsRow.frozenAt (w := wr) (base := w11.heap.size) (e := 5) (size := 1) (n := 100) (cap := cg) (xs := bvs (lay K (L.take j))) (by have := ho; unfold Own at this; rw [Hal.out] at this; exact this) p.1
        have Hstep : Hid (∀ q, Own ((wr.setCell ⟨g, p.1, none⟩ (.int .u8 (p.2.toNat : Int))).drewN q) w11.heap.size (.slice (some ⟨g, 0, none⟩) 100 cg) (lay K (L.take (j + 1))) ∧ Below w11.heap.size w11 ((wr.setCell ⟨g, p.1, none⟩ (.int .u8 (p.2.toNat : Int))).drewN q)) := by
          intro q
          rw [lay_snoc _ _ _ _ hp]
          have q9 := hb.setCell (p := ⟨g, p.1, none⟩) hg (.int .u8 (p.2.toNat : Int))
          exact ⟨Own.set_ ho (Hal.out j).symm _ _, ⟨q9.os, q9.tape, q9.output, q9.size, q9.block⟩⟩
        have hp1 : p.1 < 100 := hpl
        have hp1' : (p.1 : Int) < 100 := by omega
        have hjn : j < np := by omega
        have hjn' : (j : Int) < (np : Int) := by omega
        have hgrd : g ≠ rd := by omega
        have hgb : g ≠ b := by omega
        generalize hX : (⟨(lay K (L.take j)).toArray⟩ : ByteArray) = X at tx1 heq
        generalize hY : (⟨(lay K (L.take kk)).toArray⟩ : ByteArray) = Y at tx2 heq
        generalize p.1 = a at *
        generalize p.2.toNat = y at *
        clear ho hb hp hpl r1 r2 hX hY
        go_wp2_with fail
        · go_ret
          exact ⟨rfl, Hbf.out⟩
        · go_region
          all_goals
            go_wp2_with fail
            go_roundw
            case rel => exact ⟨j + 1, by go_num, by omega, Hstep.out _⟩
            case measure => simp [intOf]; omega
end Go.Proofs.Ytndahmhnadmmaaa

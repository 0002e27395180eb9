/-
  ElideOrders: the walk.
-/
import Derived.Test.YtghcfmkmndldoaaEl14
namespace Go.Proofs.Ytghcfmkmndldoaa
open Go.RowKit Go.Sort Go.Lib

/-- a list, begun at its place k -/
def rotE (k : Nat) (es : List Ec) : List Ec := es.drop k ++ es.take k
theorem rot_perm (k : Nat) (es : List Ec) : (rotE k es).Perm es := by
  unfold rotE
  exact List.perm_append_comm.trans (by rw [List.take_append_drop])
theorem rot_len (k : Nat) (es : List Ec) : (rotE k es).length = es.length := (rot_perm k es).length_eq
theorem rot_at {k i n : Nat} {es : List Ec} (hn : n = es.length) (hk : k < n) (hi : i < n) : (rotE k es)[i]? = es[(i + k) % n]? := by
  unfold rotE
  by_cases h : i + k < n
  · rw [Nat.mod_eq_of_lt h, List.getElem?_append_left (by rw [List.length_drop]; omega), List.getElem?_drop, Nat.add_comm]
  · rw [Nat.mod_eq_sub_mod (by omega), Nat.mod_eq_of_lt (by omega), List.getElem?_append_right (by rw [List.length_drop]; omega), List.length_drop, List.getElem?_take, if_pos (by omega)]
    congr 1
    omega
theorem okAll_perm {a b : List Ec} (h : a.Perm b) : okAll a = okAll b := by
  cases hb : okAll b with
  | true => exact okAll_iff.2 fun e he => okAll_iff.1 hb e (h.mem_iff.1 he)
  | false =>
    cases ha : okAll a with
    | false => rfl
    | true => rw [okAll_iff.2 fun e he => okAll_iff.1 ha e (h.mem_iff.2 he)] at hb; cases hb
section
set_option maxRecDepth 100000
set_option maxHeartbeats 16000000
theorem orders_any (A : Option Addr) (c : Nat) (es : List Ec) (turn : Int) (w : World) (hr : RE w w.heap.size A es) (hc : es.length ≤ c) (hl : es.length ≤ 1099511627776) (hs : sumE es ≤ 4611686018427387904) :
    Calls Try.prog 5 #[.slice A es.length c, .int .i64 turn] w fun e w' => e = .returned (.bool true) ∧ Below w.heap.size w w' := by
  have HK := Lib.hid (known_any w)
  have HF : Hid (∀ W, Below w.heap.size w W → Calls Try.prog 8 #[.slice A es.length c] W fun e w' => e = .returned (.bool (decide (es.length ≤ 120) && decide (sumE es ≤ 16384))) ∧ Below w.heap.size w w') := fun W hW => by
    refine (few_any A c es W hl hs (hr.now hW)).mono ?_
    rintro e w' ⟨rfl, hb⟩
    exact ⟨rfl, hW.trans (hb.mono hW.size)⟩
  have Hr := Lib.hid hr
  obtain ⟨n, hn⟩ : ∃ n, n = es.length := ⟨_, rfl⟩
  have hl' : (n : Int) ≤ 1099511627776 := by omega
  have HN : Hid (n ≤ 120 → ∀ W, Below w.heap.size w W → Calls Try.prog 10 #[.slice A n c] W fun r w' => Below W.heap.size W w' ∧ ((okAll es = true ∧ ∃ g out, r = .returned (.tuple #[.pointer (some ⟨g, 0, none⟩), .int .i64 0]) ∧ SetAt w' W.heap.size g out ∧ (∀ j, topE out j = topE es j) ∧ out.length ≤ 28800) ∨ (okAll es = false ∧ r = .returned (.tuple #[.pointer none, .int .i64 1])))) := fun h120 W hW => by
    rw [hn]
    refine (new_any A c es W (hr.now hW) hc (by omega)).mono ?_
    rintro r w' ⟨hb, ⟨h1, g, out, rfl, h2, h3, h4⟩ | h⟩
    · refine ⟨hb, .inl ⟨h1, g, out, rfl, h2, h3, ?_⟩⟩
      have := Nat.mul_le_mul (show es.length ≤ 120 by omega) (show es.length ≤ 120 by omega)
      omega
    · exact ⟨hb, .inr h⟩
  have Hlen : Hid (∀ k : Nat, k < n → ∃ u, es[k]? = some u) := fun k hk => ⟨_, List.getElem?_eq_getElem (by omega)⟩
  rw [← hn] at HF ⊢
  have Hn := Lib.hid hn
  generalize hqq : (decide (n ≤ 120) && decide (sumE es ≤ 16384)) = q at HF
  have Hq := Lib.hid hqq
  clear hr hc hl hs hn hqq
  go_enter Try.func5, Try.ntmps5
  go_wp2_with fail
  refine HK.out.mono ?_
  rintro e w1 ⟨rfl, hb1⟩
  have H1 := Lib.hid hb1
  clear hb1 HK
  go_wp2_with fail
  refine (HF.out w1 H1.out).mono ?_
  rintro e w2 ⟨rfl, hb2⟩
  have H2 := Lib.hid hb2
  clear hb2 HF H1
  cases q with
  | false =>
    go_wp2_with fail
    go_ret
    exact ⟨rfl, H2.out⟩
  | true =>
  have H120 : Hid (n ≤ 120) := by
    show _ ≤ _
    have := Hq.out
    simp only [Bool.and_eq_true, decide_eq_true_eq] at this
    exact this.1
  clear Hq
  by_cases h0 : n = 0
  · have h0' : ((n : Int) == 0) = true := by simp [h0]
    clear h0
    go_wp2_with fail
    go_ret
    exact ⟨rfl, H2.out⟩
  have h0' : ((n : Int) == 0) = false := by rw [beq_eq_false_iff_ne]; omega
  have hm0 : ¬ (n : Int) = 0 := by omega
  have hm1 : ¬ n = 0 := h0
  obtain ⟨z, hz⟩ : ∃ z, turn.tmod (n : Int) = z := ⟨_, rfl⟩
  have hzb : -(n : Int) < z ∧ z < (n : Int) := by
    rw [← hz]
    exact ⟨by have := Int.lt_tmod_of_pos turn (show (0 : Int) < (n : Int) by omega); omega, Int.tmod_lt_of_pos _ (by omega)⟩
  have hwz1 : IntKind.i64.wrap z = z := by rw [IntKind.wrap_i64]; omega
  have hwz2 : wrap64 z = z := by unfold wrap64; omega
  have Hzb : Hid (-(n : Int) < z ∧ z < (n : Int) ∧ 0 < n) := ⟨hzb.1, hzb.2, by omega⟩
  clear hzb h0
  go_upto_region 5 with fail
  go_cut [1] (fun v wx => w2 = wx ∧ v = .int .i64 z)
  case first => as_aux_lemma =>
    clear H2 HN Hlen Hn Hzb H120 Hr
    go_wp2_with fail
    go_meet
    exact ⟨rfl, rfl⟩
  case rest =>
  obtain ⟨rfl, rfl⟩ := hcut
  clear hz hm0 hm1 hwz1 hwz2 h0'
  go_upto_if 30 with fail
  go_cut [1] (fun v wx => w2 = wx ∧ ∃ k : Nat, v = .int .i64 (k : Int) ∧ k < n)
  case first => as_aux_lemma =>
    by_cases hz0 : z < 0
    · obtain ⟨k, hk⟩ : ∃ k : Nat, z + (n : Int) = (k : Int) := ⟨(z + (n : Int)).toNat, by have := Hzb.out; omega⟩
      have hwq1 : IntKind.i64.wrap (z + (n : Int)) = (k : Int) := by rw [IntKind.wrap_i64]; have := Hzb.out; omega
      have hwq2 : wrap64 (z + (n : Int)) = (k : Int) := by have := Hzb.out; unfold wrap64; omega
      have hkn : k < n := by have := Hzb.out; omega
      have Hk := Lib.hid hkn
      clear H2 HN Hlen Hn hk Hzb hkn H120 Hr
      go_wp2_with fail
      go_meet
      exact ⟨rfl, k, rfl, Hk.out⟩
    · obtain ⟨k, rfl⟩ : ∃ k : Nat, z = (k : Int) := ⟨z.toNat, by omega⟩
      have hkn : k < n := by have := Hzb.out; omega
      have Hk := Lib.hid hkn
      clear H2 HN Hlen Hn Hzb hkn H120 Hr
      go_wp2_with fail
      go_meet
      exact ⟨rfl, k, rfl, Hk.out⟩
  case rest =>
  obtain ⟨rfl, k, rfl, hkn⟩ := hcut
  have Hkn := Lib.hid hkn
  clear hkn Hzb
  go_wp2_with fail
  go_loopw [5, 6] (fun mv iv wr => ∃ (i : Nat) (v : Value), mv = v ∧ iv = .int .i64 (i : Int) ∧ i ≤ n ∧ Hid (OwnE wr w.heap.size v ((rotE k es).take i) ∧ Below w.heap.size w wr)) (fun _ iv _ => n - (intOf iv).toNat)
  case atStart => exact ⟨0, _, rfl, rfl, Nat.zero_le _, OwnE.nil _ _, H2.out⟩
  case round =>
    obtain ⟨i, v, ev, rfl, hi, hst⟩ := hrel
    obtain rfl := ev.symm
    clear H2
    by_cases hlt : i < n
    · obtain ⟨j, hj⟩ : ∃ j, j = (i + k) % n := ⟨_, rfl⟩
      have hjn : j < n := by rw [hj]; exact Nat.mod_lt _ (by omega)
      obtain ⟨e, he⟩ := Hlen.out j hjn
      obtain ⟨b, o, rfl, hblt, x0, x1, x2⟩ := (Hr.out.below hst.out.2) j e he
      have hlt' : (i : Int) < (n : Int) := by omega
      have hw1 : IntKind.i64.wrap ((i : Int) + (k : Int)) = (i : Int) + (k : Int) := by rw [IntKind.wrap_i64]; have := Hkn.out; omega
      have hw2 : ((i : Int) + (k : Int)).tmod (n : Int) = (j : Int) := by
        rw [Int.tmod_eq_emod_of_nonneg (by omega), hj, Int.natCast_emod, Int.natCast_add]
      have hw3 : IntKind.i64.wrap (j : Int) = (j : Int) := by rw [IntKind.wrap_i64]; omega
      have Hw4 : Hid (wrap64 (j : Int) = (j : Int)) := by show _ = _; unfold wrap64; omega
      have hn0 : ¬ (n : Int) = 0 := by omega
      have hn1 : ¬ n = 0 := by omega
      have hj' : (j : Int) < (n : Int) := by omega
      have Hnx : Hid ((rotE k es).take (i + 1) = (rotE k es).take i ++ [e]) := by
        show _ = _
        rw [List.take_add_one, rot_at Hn.out Hkn.out hlt, ← hj, he]
        rfl
      have Ho : Hid (OwnE (wr.alloc (.cells #[.string e.1, .string e.2.1, .int .u64 (e.2.2 : Int)] 32)) w.heap.size v ((rotE k es).take i) ∧ Below w.heap.size w (wr.alloc (.cells #[.string e.1, .string e.2.1, .int .u64 (e.2.2 : Int)] 32)) ∧ w.heap.size ≤ (wr.alloc (.cells #[.string e.1, .string e.2.1, .int .u64 (e.2.2 : Int)] 32)).heap.size) := by
        have hb : Below w.heap.size w (wr.alloc (.cells #[.string e.1, .string e.2.1, .int .u64 (e.2.2 : Int)] 32)) := hst.out.2.alloc hst.out.2.size _
        exact ⟨hst.out.1.below ((Below.refl _ _).alloc (Nat.le_refl _) _), hb, hb.size⟩
      have Hlt : Hid (((rotE k es).take i).length + 1 ≤ 1099511627776) := by show _ ≤ _; have := List.length_take_le i (rotE k es); omega
      have He1 := Lib.hid (RE.one wr e)
      clear he hblt hj hlt hst
      have hw4 := Hw4.out
      go_wp2_with (at_builtin; refine app_elisions (fs := [e]) rfl (.tmp 41) (.tmp 51) rfl rfl Ho.out.1 1 1 rfl rfl He1.out Hlt.out Ho.out.2.2 ?_; intro v6 w6 r6 g6 _; have H6 : Hid (OwnE w6 w.heap.size v6 ((rotE k es).take (i + 1)) ∧ Below w.heap.size w w6) := ⟨by rw [Hnx.out]; exact r6, Ho.out.2.1.trans (Ho.out.1.grownB g6 Ho.out.2.2)⟩; clear r6 g6 hw1 hw2 hw3 hw4)
      go_roundw
      case rel => exact ⟨i + 1, v6, rfl, by go_num, by omega, H6⟩
      case measure => simp [intOf]; omega
    · obtain rfl : i = n := by omega
      generalize wr = w3 at *
      have hm3 := hst.out.1
      rw [List.take_of_length_le (by rw [rot_len]; have := Hn.out; omega)] at hm3
      obtain ⟨Am, cm, rfl, hcm, _, hrm, _⟩ := hm3.rd
      have hrl : (rotE k es).length = i := by rw [rot_len]; exact Hn.out.symm
      have HNa := Lib.hid (HN.out H120.out w3 hst.out.2)
      have HNb : Hid (∀ W, Below w3.heap.size w3 W → Calls Try.prog 10 #[.slice Am i cm] W fun r w' => Below W.heap.size W w' ∧ ((okAll es = true ∧ ∃ g out, r = .returned (.tuple #[.pointer (some ⟨g, 0, none⟩), .int .i64 0]) ∧ SetAt w' W.heap.size g out ∧ (∀ j, topE out j = topE es j)) ∨ (okAll es = false ∧ r = .returned (.tuple #[.pointer none, .int .i64 1])))) := fun W hW => by
        have h9 := new_any Am cm (rotE k es) W (hrm.now hW) hcm (by have := H120.out; omega)
        rw [hrl] at h9
        refine h9.mono ?_
        rintro r w' ⟨hb, ⟨h1, g, out, rfl, h2, h3, h4⟩ | ⟨h1, h2⟩⟩
        · exact ⟨hb, .inl ⟨by rw [← okAll_perm (rot_perm k es)]; exact h1, g, out, rfl, h2, fun j => by rw [h3, top_perm (rot_perm k es)]⟩⟩
        · exact ⟨hb, .inr ⟨by rw [← okAll_perm (rot_perm k es)]; exact h1, h2⟩⟩
      have H3 : Hid (Below w.heap.size w w3) := hst.out.2
      clear hst hm3 hcm hrm HN hlt Hlen Hr
      rw [hrl]
      clear hrl
      go_wp2_with fail
      refine HNa.out.mono ?_
      rintro r w4 ⟨hb4, ⟨hok, ga, oa, rfl, hsa, hta, hla⟩ | ⟨hno, rfl⟩⟩
      · have HNb2 := Lib.hid (HNb.out w4 hb4)
        have H4 : Hid (SetAt w4 w3.heap.size ga oa ∧ (∀ j, topE oa j = topE es j) ∧ oa.length ≤ 28800 ∧ Below w.heap.size w w4 ∧ okAll es = true) := ⟨hsa, hta, hla, H3.out.trans (hb4.mono H3.out.size), hok⟩
        clear hb4 hok hsa hta hla HNb HNa
        go_wp2_with fail
        refine HNb2.out.mono ?_
        rintro r w5 ⟨hb5, ⟨_, gb, ob, rfl, hsb, htb⟩ | ⟨hno, _⟩⟩
        case inr => rw [H4.out.2.2.2.2] at hno; cases hno
        obtain rfl : oa = ob := plain_ext H4.out.1.plain hsb.plain fun j => by rw [H4.out.2.1, htb]
        have HLs : Hid (∀ (g base : Nat) (W0 W : World), SetAt W0 base g oa → Below W0.heap.size W0 W → Calls Try.prog 17 #[.pointer (some ⟨g, 0, none⟩)] W fun r w' => ∃ A c, r = .returned (.slice A oa.length c) ∧ oa.length ≤ c ∧ RE w' w'.heap.size A oa ∧ Below W0.heap.size W0 w' ∧ Below W.heap.size W w') := fun g base W0 W h hW => by
          refine (list_any g base oa W (h.below hW)).mono ?_
          rintro r w' ⟨v, rfl, ho, hb⟩
          obtain ⟨A', c', rfl, hc', _, hr', _⟩ := ho.rd
          exact ⟨A', c', rfl, hc', hr', hW.trans (hb.mono hW.size), hb⟩
        have H5 : Hid (SetAt w5 w3.heap.size ga oa ∧ SetAt w5 w4.heap.size gb oa ∧ Below w.heap.size w w5 ∧ oa.length ≤ 28800) := ⟨H4.out.1.below hb5, hsb, H4.out.2.2.2.1.trans (hb5.mono H4.out.2.2.2.1.size), H4.out.2.2.1⟩
        have HL1 := Lib.hid (HLs.out ga _ w5 w5 H5.out.1 (Below.refl _ _))
        clear hb5 hsb htb HNb2 H4
        go_wp2_with fail
        refine HL1.out.mono ?_
        rintro r w6 ⟨A6, c6, rfl, hc6, hr6, hb6, _⟩
        have HNc := Lib.hid (new_any A6 c6 oa w6 hr6 hc6 (by have := H5.out.2.2.2; omega))
        have H6 := Lib.hid hb6
        clear hc6 hr6 hb6 HL1
        go_wp2_with fail
        refine HNc.out.mono ?_
        rintro r w7 ⟨hb7, ⟨_, gc, oc, rfl, hsc, htc, _⟩ | ⟨hno, _⟩⟩
        case inr => rw [okAll_iff.2 H5.out.1.plain.ok] at hno; cases hno
        obtain rfl : oa = oc := plain_ext H5.out.1.plain hsc.plain fun j => (htc j).symm
        have hb57 : Below w5.heap.size w5 w7 := H6.out.trans (hb7.mono H6.out.size)
        have H7 : Hid (SetAt w7 w3.heap.size ga oa ∧ SetAt w7 w4.heap.size gb oa ∧ SetAt w7 w6.heap.size gc oa ∧ Below w.heap.size w w7 ∧ oa.length ≤ 28800) := ⟨H5.out.1.below hb57, H5.out.2.1.below hb57, hsc, H5.out.2.2.1.trans (hb57.mono H5.out.2.2.1.size), H5.out.2.2.2⟩
        have HL2 := Lib.hid (HLs.out ga _ w7 w7 H7.out.1 (Below.refl _ _))
        have HSm : Hid (∀ A1 A2 c1 c2 W, RE W W.heap.size A1 oa → RE W W.heap.size A2 oa → Calls Try.prog 16 #[.slice A1 oa.length c1, .slice A2 oa.length c2] W fun e w' => e = .returned (.bool true) ∧ Below W.heap.size W w') := fun A1 A2 c1 c2 W q1 q2 => by
          have := sameE_any A1 A2 c1 c2 oa oa W (by have := H7.out.2.2.2.2; omega) (by have := H7.out.2.2.2.2; omega) q1 q2
          rwa [decide_eq_true rfl] at this
        clear hb7 hsc htc hb57 HNc H6 H5
        go_wp2_with fail
        refine HL2.out.mono ?_
        rintro r w8 ⟨A8, c8, rfl, _, hr8, hb8, _⟩
        have HL3 := Lib.hid (HLs.out gb _ w7 w8 H7.out.2.1 hb8)
        have H8 := Lib.hid hr8
        clear hr8 hb8 HL2
        go_wp2_with fail
        refine HL3.out.mono ?_
        rintro r w9 ⟨A9, c9, rfl, _, hr9, hb9, hb89⟩
        have HS1 := Lib.hid (HSm.out A8 A9 c8 c9 w9 (H8.out.now hb89) hr9)
        have H9 := Lib.hid hb9
        clear hr9 hb9 hb89 H8 HL3
        go_wp2_with fail
        refine HS1.out.mono ?_
        rintro r w10 ⟨rfl, hb10⟩
        have H10 : Hid (Below w7.heap.size w7 w10) := H9.out.trans (hb10.mono H9.out.size)
        have HL4 := Lib.hid (HLs.out ga _ w7 w10 H7.out.1 H10.out)
        clear hb10 HS1 H9
        go_wp2_with fail
        refine HL4.out.mono ?_
        rintro r w11 ⟨A11, c11, rfl, _, hr11, hb11, _⟩
        have HL5 := Lib.hid (HLs.out gc _ w7 w11 H7.out.2.2.1 hb11)
        have H11 := Lib.hid hr11
        clear hr11 hb11 HL4 H10
        go_wp2_with fail
        refine HL5.out.mono ?_
        rintro r w12 ⟨A12, c12, rfl, _, hr12, hb12, hb112⟩
        have HS2 := Lib.hid (HSm.out A11 A12 c11 c12 w12 (H11.out.now hb112) hr12)
        have H12 := Lib.hid hb12
        clear hr12 hb12 hb112 H11 HL5
        go_wp2_with fail
        refine HS2.out.mono ?_
        rintro r w13 ⟨rfl, hb13⟩
        have H13 : Hid (Below w7.heap.size w7 w13) := H12.out.trans (hb13.mono H12.out.size)
        have HL6 := Lib.hid (HLs.out ga _ w7 w13 H7.out.1 H13.out)
        clear hb13 HS2 H12 HSm HLs
        go_wp2_with fail
        refine HL6.out.mono ?_
        rintro r w14 ⟨A14, c14, rfl, _, hr14, hb14, _⟩
        have H14 : Hid (RE w14 w14.heap.size A14 oa ∧ Below w.heap.size w w14 ∧ PlainE oa) := ⟨hr14, H7.out.2.2.2.1.trans (hb14.mono H7.out.2.2.2.1.size), H7.out.1.plain⟩
        obtain ⟨m, hm⟩ : ∃ m, m = oa.length := ⟨_, rfl⟩
        have Hx : Hid (∀ j, j < m → ∃ x, oa[j]? = some x) := fun j hj => ⟨_, List.getElem?_eq_getElem (by omega)⟩
        have hm9 : (m : Int) ≤ 28800 := by have := H7.out.2.2.2.2; omega
        rw [← hm]
        clear hr14 hb14 HL6 H13 H7 hm
        go_wp2_with fail
        go_loopw [14] (fun iv wr => ∃ j : Nat, iv = .int .i64 (j : Int) ∧ j ≤ m ∧ Hid (Below w14.heap.size w14 wr)) (fun iv _ => m - (intOf iv).toNat)
        case atStart => exact ⟨0, rfl, Nat.zero_le _, Below.refl _ _⟩
        case round =>
          obtain ⟨j, rfl, hj, hg⟩ := hrel
          by_cases hjt : j < m
          · obtain ⟨x, hx⟩ := Hx.out j hjt
            obtain ⟨b, o, rfl, hblt, x0, x1, x2⟩ := (H14.out.1.below hg.out) j x hx
            have hjt' : (j : Int) < (m : Int) := by omega
            have hok : Op.bytesLess x.1.toList x.2.1.toList = true := H14.out.2.2.ok x (List.mem_of_getElem? hx)
            by_cases hj0 : j = 0
            · have hd : decide (0 < j) = false := decide_eq_false (by omega)
              clear hx hblt hjt hj0
              go_upto_region 24 with fail
              go_quiet (fail)
              go_wp2_with fail
              go_roundw
              case rel => exact ⟨j + 1, by go_num, by omega, below_dr hg.out nq⟩
              case measure => simp [intOf]; omega
            · obtain ⟨y, hy⟩ := Hx.out (j - 1) (by omega)
              obtain ⟨b', o', e', _, y0, y1, y2⟩ := (H14.out.1.below hg.out) (j - 1) y hy
              cases e'
              have hd : decide (0 < j) = true := decide_eq_true (by omega)
              have hsep := (List.pairwise_iff_getElem.1 H14.out.2.2.sep (j - 1) j (List.getElem?_eq_some_iff.1 hy).1 (List.getElem?_eq_some_iff.1 hx).1 (by omega))
              rw [(List.getElem?_eq_some_iff.1 hy).2, (List.getElem?_eq_some_iff.1 hx).2] at hsep
              have hwr : IntKind.i64.wrap ((j : Int) - 1) = ((j - 1 : Nat) : Int) := by rw [IntKind.wrap_i64]; omega
              have hip : ((j - 1 : Nat) : Int) < (m : Int) := by omega
              have Hj : Hid (j + 1 ≤ m ∧ j < m) := ⟨by omega, hjt⟩
              generalize j - 1 = ip at *
              rcases less_total y.2.1.toList x.1.toList with q | q | q
              · have q2 : (y.2.1.toList == x.1.toList) = false := by
                  rw [beq_eq_false_iff_ne]
                  intro e
                  rw [e, less_irrefl] at q
                  cases q
                clear hx hy hblt hjt hj0 hsep hj
                go_upto_region 24 with fail
                go_quiet (fail)
                go_wp2_with fail
                go_roundw
                case rel => exact ⟨j + 1, by go_num, Hj.out.1, below_dr hg.out nq⟩
                case measure => have := Hj.out.2; simp [intOf]; omega
              · have q1 : Op.bytesLess y.2.1.toList x.1.toList = false := by rw [q]; exact less_irrefl _
                have q2 : (y.2.1.toList == x.1.toList) = true := by rw [q]; simp
                have q3 : ((y.2.2 : Int) == (x.2.2 : Int)) = false := by
                  rw [beq_eq_false_iff_ne]
                  intro e
                  exact hsep.2 (array_inj q) (by omega)
                clear hx hy hblt hjt hj0 hsep q hj
                go_upto_region 24 with fail
                go_quiet (fail)
                go_wp2_with fail
                go_roundw
                case rel => exact ⟨j + 1, by go_num, Hj.out.1, below_dr hg.out nq⟩
                case measure => have := Hj.out.2; simp [intOf]; omega
              · have h9 : Op.bytesLess x.1.toList y.2.1.toList = false := hsep.1
                rw [h9] at q
                cases q
          · obtain rfl : j = m := by omega
            have Hf : Hid (Below w.heap.size w wr) := H14.out.2.1.trans (hg.out.mono H14.out.2.1.size)
            clear hg hjt H14
            go_wp2_with fail
            go_ret
            exact ⟨rfl, Hf.out⟩
      · have HNb2 := Lib.hid (HNb.out w4 hb4)
        have H4 : Hid (Below w.heap.size w w4 ∧ okAll es = false) := ⟨H3.out.trans (hb4.mono H3.out.size), hno⟩
        clear hb4 hno HNb HNa
        go_wp2_with fail
        refine HNb2.out.mono ?_
        rintro r w5 ⟨hb5, ⟨hok, _⟩ | ⟨_, rfl⟩⟩
        · rw [H4.out.2] at hok; cases hok
        · have H5 : Hid (Below w.heap.size w w5) := H4.out.1.trans (hb5.mono H4.out.1.size)
          clear hb5 HNb2
          go_wp2_with fail
          go_ret
          exact ⟨rfl, H5.out⟩
end
end Go.Proofs.Ytghcfmkmndldoaa

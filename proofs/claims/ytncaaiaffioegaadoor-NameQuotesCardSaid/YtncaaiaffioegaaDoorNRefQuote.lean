/-
  The second saying's Quote.
-/
import Derived.Test.YtncaaiaffioegaaDoorNDigit
import Derived.Test.YtncaaiaffioegaaDoorNOne
import Derived.Test.YtncaaiaffioegaaDoorNHex
import Derived.Test.YtncaaiaffioegaaDoorNWords
namespace Go.Proofs.YtncaaiaffioegaaDoor
open Go.RowKit

theorem quote_at (l : List UInt8) (h : l ≠ []) :
    (((one l).2 = 0 ∨ (one l).1 < 32 ∨ (one l).1 = 127) → (segsOf l).flatMap qp = qhex (l.getD 0 0) ++ (segsOf (l.drop 1)).flatMap qp) ∧
    (¬ ((one l).2 = 0 ∨ (one l).1 < 32 ∨ (one l).1 = 127) → (one l).1 = 34 ∨ (one l).1 = 92 → (segsOf l).flatMap qp = [92, UInt8.ofNat (one l).1] ++ (segsOf (l.drop (one l).2)).flatMap qp) ∧
    (¬ ((one l).2 = 0 ∨ (one l).1 < 32 ∨ (one l).1 = 127) → ¬ ((one l).1 = 34 ∨ (one l).1 = 92) → (segsOf l).flatMap qp = l.take (one l).2 ++ (segsOf (l.drop (one l).2)).flatMap qp) := by
  have hc := segsOf_cons l h
  rw [hc, List.flatMap_cons]
  have hg : ∀ m, 1 ≤ m → (l.take m).getD 0 0 = l.getD 0 0 := by
    intro m hm
    match l, m, hm, h with
    | x :: r, k + 1, _, _ => exact rfl
    | [], _, _, h => exact absurd rfl h
  refine ⟨fun hA => ?_, fun hA hB => ?_, fun hA hB => ?_⟩
  · by_cases h0 : (one l).2 = 0
    · have e : dec l = (65533, 1) := by simp [dec, h0]
      unfold qp seg
      dsimp only
      rw [e, hg 1 (by omega)]
      simp [h0]
    · have e : dec l = one l := by simp [dec, h0]
      have h1 : (one l).2 = 1 := by
        by_cases h2 : 2 ≤ (one l).2
        · have := ((one_facts l).2.2.2.2.2.2.2 h2).1
          omega
        · omega
      unfold qp seg
      dsimp only
      rw [e, h1, hg 1 (by omega), if_neg (by omega), if_pos (by omega)]
  · have e : dec l = one l := by simp [dec]; omega
    unfold qp seg
    dsimp only
    rw [e, if_pos hB]
  · have e : dec l = one l := by simp [dec]; omega
    unfold qp seg
    dsimp only
    rw [e, if_neg hB, if_neg (by simp; omega)]

set_option maxRecDepth 200000 in
set_option maxHeartbeats 2000000 in
theorem refQuote_any (s : ByteArray) (w : World) (hs : s.size ≤ 4294967296) :
    Calls Tryd.prog 9 #[.string s] w fun e w' => e = .returned (.string ⟨(quoteL s.data.toList).toArray⟩) ∧ Below w.heap.size w w' := by
  have Hb34 : Hid ([Value.int .u8 34] = bvs [(34 : UInt8)]) := rfl
  obtain ⟨Q, hQ⟩ : ∃ Q, Q = 34 :: (segsOf s.data.toList).flatMap qp := ⟨_, rfl⟩
  have HQ := Lib.hid hQ
  have Hquo : Hid (quoteL s.data.toList = Q ++ [34]) := by show _ = _; rw [hQ]; rfl
  have hs' : (s.size : Int) ≤ 4294967296 := by omega
  rw [Hquo.out]
  clear hQ
  go_enter Tryd.func9, Tryd.ntmps9
  go_wp2_with fail
  go_loopw [0, 3] (fun d v wr => ∃ (u : ByteArray) (acc : List UInt8), d = .string u ∧ u.size ≤ s.size ∧ Hid (acc.length + 4 * u.size ≤ 4 * s.size + 1) ∧ Hid (Own wr w.heap.size v acc) ∧ Hid (Below w.heap.size w wr) ∧ Hid (Q = acc ++ (segsOf u.data.toList).flatMap qp)) (fun d _ _ => strSize d)
  case atStart =>
    have hblk : Blk (w.alloc (.cells #[.int .u8 34] 5)) w.heap.size [34] := heap_alloc_new w _
    exact ⟨s, [34], rfl, Nat.le_refl _, by show _ ≤ _; simp; omega, hblk.own (Nat.le_refl _) (by simp), (Below.refl _ _).alloc (Nat.le_refl _) _, HQ.out⟩
  case round =>
    obtain ⟨u, acc, rfl, hu, hacc, hown, hbel, hres⟩ := hrel
    have Hsz : Hid (w.heap.size ≤ wr.heap.size) := hbel.out.size
    have hus : (u.size : Int) ≤ 4294967296 := by omega
    by_cases h0 : 0 < u.size
    · have hsl : u.data.toList.length = u.size := rfl
      have hne0 := text_nonempty' u h0
      have hne : u.data.toList ≠ [] := by intro e; rw [e] at hsl; simp at hsl; omega
      have HO := Lib.hid (fun W => one_any u W (by omega))
      have Hq := Lib.hid (quote_at u.data.toList hne)
      have hf := one_facts u.data.toList
      have hix : ∀ W, (Instr.index 9 (.string u) (.int .i64 0)).run Tryd.prog W = .ok (.int .u8 (((u.data.toList.getD 0 0).toNat : Nat) : Int)) W := fun W => index_at u 0 h0 W
      have hn1 := hf.1
      have hn4 := hf.2.1
      have hv := hf.2.2.1
      have Fin : Hid (∀ (piece : List UInt8) (n : Nat) (v3 : Value) (w3 : World), 1 ≤ n → n ≤ u.size → piece.length ≤ 4 * n → (segsOf u.data.toList).flatMap qp = piece ++ (segsOf (u.data.toList.drop n)).flatMap qp → Own w3 w.heap.size v3 (acc ++ piece) → Below w.heap.size w w3 →
          (∃ (u' : ByteArray) (acc : List UInt8), Value.string (u.extract n u.size) = .string u' ∧ u'.size ≤ s.size ∧ Hid (acc.length + 4 * u'.size ≤ 4 * s.size + 1) ∧ Hid (Own w3 w.heap.size v3 acc) ∧ Hid (Below w.heap.size w w3) ∧ Hid (Q = acc ++ (segsOf u'.data.toList).flatMap qp)) ∧ strSize (.string (u.extract n u.size)) < strSize (.string u)) := by
        intro piece n v3 w3 g1 g2 g3 g4 g5 g6
        have hz := extract_size u n
        refine ⟨⟨_, acc ++ piece, rfl, by rw [hz]; omega, ?_, g5, g6, ?_⟩, ?_⟩
        · show _ ≤ _
          rw [List.length_append, hz]
          have := hacc.out
          omega
        · show _ = _
          rw [hres.out, extract_tail, g4, List.append_assoc]
        · simp only [strSize]; rw [hz]; omega
      generalize u.data.toList.getD 0 0 = x8 at hix Hq
      rw [hsl] at hn1
      clear hf hne hsl
      generalize (one u.data.toList).1 = v at HO Hq hv
      generalize (one u.data.toList).2 = n at HO Hq hn1 hn4
      have hv' : (v : Int) ≤ 1114111 := by omega
      have hn' : (n : Int) ≤ (u.size : Int) := by omega
      have h1s : (1 : Int) ≤ (u.size : Int) := by omega
      have Hal : Hid (acc.length ≤ 1099511627776) := by show _ ≤ _; have := hacc.out; omega
      by_cases hA : n = 0 ∨ v < 32 ∨ v = 127
      · have Hpc := Lib.hid (Hq.out.1 hA)
        have hd : ((n : Int) == 0) = true ∨ (((n : Int) == 0) = false ∧ decide ((v : Int) < 32) = true) ∨ (((n : Int) == 0) = false ∧ decide ((v : Int) < 32) = false ∧ ((v : Int) == 127) = true) := by simp; omega
        have hx := x8.toNat_lt
        have hand : bits .and .u8 (x8.toNat : Int) 15 = ((x8.toNat % 16 : Nat) : Int) := by
          have := u8_and_nat x8.toNat 15 (by omega) (by omega)
          rw [show x8.toNat &&& 15 = x8.toNat % 16 from Nat.and_two_pow_sub_one_eq_mod x8.toNat 4] at this
          exact this
        have hd1 : ((x8.toNat : Int) / 16) = ((x8.toNat / 16 : Nat) : Int) := by omega
        have Hqb : Hid ([Value.int .u8 92, .int .u8 120, .int .u8 ((hexd (x8.toNat / 16)).toNat : Int), .int .u8 ((hexd (x8.toNat % 16)).toNat : Int)] = bvs (qhex x8)) := by show _ = _; simp [bvs, qhex, bv]
        have Hdig : Hid (∀ m : Nat, m < 16 → ∀ W, Calls Tryd.prog 20 #[.int .u8 (m : Int)] W fun e w' => e = .returned (.int .u8 ((hexd m).toNat : Int)) ∧ W = w') := fun m hm W => digit_any m hm W
        have Hm1 : Hid (x8.toNat / 16 < 16) := by show _ < _; omega
        have Hm2 : Hid (x8.toNat % 16 < 16) := by show _ < _; omega
        have Hql : Hid ((qhex x8).length = 4) := rfl
        have Hlq : Hid (acc.length + (qhex x8).length ≤ 140737488355327) := by show _ + 4 ≤ _; have := Hal.out; omega
        clear hA Hq hx hv hn1 hn4
        generalize qhex x8 = q at Hqb Hql Hlq Hpc
        generalize x8.toNat / 16 = m1 at hd1 Hqb Hm1
        generalize x8.toNat % 16 = m2 at hand Hqb Hm2
        generalize x8.toNat = y at hd1 hand hix
        rcases hd with hd | ⟨hd, hd2⟩ | ⟨hd, hd2, hd3⟩
        all_goals
          go_wp2_with fail
          refine (HO.out _).mono ?_
          rintro e w' ⟨rfl, rfl⟩
          go_upto_region 6 with fail
          go_region_law (first
            | (go_simp; go_at_call 20; refine (Hdig.out _ (by first | exact Hm1.out | exact Hm2.out) _).mono ?_; rintro e w' ⟨rfl, rfl⟩)
            | (go_must (refine step_app_bytes (by rfl) (.tmp 30) (.tmp 39) (by rfl) w.heap.size _ acc (by rfl) (Own.alloc (Own.drew hown.out) _) _ (some ⟨wr.heap.size, 0, none⟩) 4 4 q (by rfl) Hql.out.symm (RB.new _ _ _ _ Hqb.out) Hlq.out (Nat.le_trans Hsz.out (by simp)) ?_); intro v9 W9 hown9 hbel9 hg9))
          all_goals
            go_wp2_with fail
            exact Fin.out q 1 _ _ (Nat.le_refl _) (by omega) (by rw [Hql.out]; decide) Hpc.out hown9 ((hbel.out.drew.alloc (Nat.le_trans Hsz.out (by simp)) _).trans hbel9)
      · have e1 : ((n : Int) == 0) = false := by simp; omega
        have e2 : decide ((v : Int) < 32) = false := by simp; omega
        have e3 : ((v : Int) == 127) = false := by simp; omega
        have hn0 : 1 ≤ n := by omega
        by_cases hB : v = 34 ∨ v = 92
        · have Hpc := Lib.hid (Hq.out.2.1 hA hB)
          have Hb : Hid ([Value.int .u8 92, .int .u8 (v : Int)] = bvs [92, UInt8.ofNat v]) := by
            show _ = _
            simp [bvs, bv]
            omega
          have hr8 : (v : Int) ≤ 92 := by omega
          have Hlen : Hid (acc.length + 2 ≤ 140737488355327) := by show _ ≤ _; have := Hal.out; omega
          have ht : ((v : Int) == 34) = true ∨ (((v : Int) == 34) = false ∧ ((v : Int) == 92) = true) := by simp; omega
          clear hA Hq hB hv hn4 hv'
          rcases ht with ht | ⟨ht, ht2⟩
          all_goals
            go_wp2_with fail
            refine (HO.out _).mono ?_
            rintro e w' ⟨rfl, rfl⟩
            go_wp2_with (at_builtin; go_must (refine app_bytes rfl (.tmp 48) (.tmp 51) rfl w.heap.size _ _ rfl (Own.alloc hown.out _) _ _ 2 2 [92, UInt8.ofNat v] rfl rfl (RB.new _ _ _ _ Hb.out) Hlen.out (Nat.le_trans Hsz.out (by simp)) ?_); intro v3 w3 hown3 hbel3 _)
            exact Fin.out _ n _ _ hn0 hn1 (by simp; omega) Hpc.out hown3 ((hbel.out.alloc Hsz.out _).trans hbel3)
        · have Hpc := Lib.hid (Hq.out.2.2 hA hB)
          have ht1 : ((v : Int) == 34) = false := by simp; omega
          have ht2 : ((v : Int) == 92) = false := by simp; omega
          have Hex : Hid ((u.extract 0 n).data.toList = u.data.toList.take n) := by show _ = _; rw [Lib.extract_data]; simp
          have Hlen : Hid (acc.length + (u.extract 0 n).size ≤ 140737488355327) := by
            show _ ≤ _
            have h1 : (u.extract 0 n).size = (u.data.toList.take n).length := by rw [← Hex.out]; rfl
            rw [h1, List.length_take]
            have := Hal.out
            omega
          clear hA Hq hB hv hn4 hv'
          go_wp2_with fail
          refine (HO.out _).mono ?_
          rintro e w' ⟨rfl, rfl⟩
          go_wp2_with (at_builtin; go_must (refine app_text rfl (.tmp 14) (.tmp 17) rfl w.heap.size _ acc rfl hown.out (u.extract 0 n) rfl Hlen.out Hsz.out ?_); intro v3 w3 hown3 hbel3)
          rw [Hex.out] at hown3
          exact Fin.out _ n _ _ hn0 hn1 (by rw [List.length_take]; omega) Hpc.out hown3 (hbel.out.trans hbel3)
    · have hz : (u.size : Int) ≤ 0 := by omega
      have h00 : u.size = 0 := by omega
      have Hnil : Hid (Q = acc) := by show _ = _; rw [hres.out, nil_text' u h00]; show acc ++ (segsOf []).flatMap qp = acc; rw [segsOf_nil]; simp
      have hnil : u = ⟨#[]⟩ := nil_text' u h00
      have Hlen : Hid (acc.length + 1 ≤ 140737488355327) := by show _ ≤ _; have := hacc.out; omega
      have he0 : u.toList.isEmpty = true := by rw [hnil, Lib.toList_data]; rfl
      clear hnil hz h00 h0
      have Hfin : Hid (Q ++ [34] = acc ++ [34]) := by show _ = _; rw [Hnil.out]
      go_wp2_with (at_builtin; go_must (refine app_bytes rfl (.tmp 56) (.tmp 57) rfl w.heap.size _ _ rfl (Own.alloc hown.out _) _ _ 1 1 [(34 : UInt8)] rfl rfl (RB.new _ _ _ _ Hb34.out) Hlen.out (Nat.le_trans Hsz.out (by simp)) ?_); intro v3 w3 hown3 hbel3 hg3; generalize acc ++ [(34 : UInt8)] = body at hown3 Hfin; obtain ⟨A, c, rfl, _, hrb, _⟩ := hown3.rb; have hcv := text_run w3 _ A _ c hrb; clear hrb)
      go_ret
      exact ⟨by rw [Hfin.out]; rfl, (hbel.out.alloc Hsz.out _).trans hbel3⟩
end Go.Proofs.YtncaaiaffioegaaDoor

/-
  Numbers and byte strings, written and read (frame's, for a seat that has no more of frame).
-/
import Derived.Test.YtkjogkmdldplgaaDoorOwnV
import Derived.Test.YtkjogkmdldplgaaDoorKRefRn
import Derived.Test.YtkjogkmdldplgaaDoorNum
namespace Go.Proofs.YtkjogkmdldplgaaDoor
open Go.RowKit

/-- make([]byte, 0, n): the block's cells behind a letter -/
theorem make_cap (n : Nat) (hn : n ≤ 2199023255552) : ∃ cs : Array Value, (∀ (u : World) (base : Nat), base ≤ u.heap.size → Own (u.alloc (.cells cs 5)) base (.slice (some ⟨u.heap.size, 0, none⟩) 0 n) []) ∧
    ∀ u : World, (Instr.makeSlice 35 (.int .i64 0) (.int .i64 (n : Int))).run Tryd.prog u = .ok (.slice (some ⟨u.heap.size, 0, none⟩) 0 n) (u.alloc (.cells cs 5)) := by
  obtain ⟨i0, hi, hz0, hz1, hz2⟩ := info_parts info8
  refine ⟨madeCells #[Value.int .u8 0] n, fun u base hb => World.ownsRow_made u _ n hb (by simp only [maxLen]; omega) (by rw [size_madeCells]; omega), fun u => ?_⟩
  have h := run_make (P := Tryd.prog) u 35 5 i0 (.int .u8 0) Tryd.underlying35 hi hz0 .i64 .i64 0 (n : Int) (by omega) (by omega) (by rw [hz2]; omega) (by omega)
  rw [h]
  simp only [Int.toNat_natCast, hz1, Nat.mul_one]
  rfl

set_option maxRecDepth 20000 in
set_option maxHeartbeats 400000 in
theorem number_any (A : Option Addr) (c : Nat) (l : List UInt8) (v : Nat) (w : World) (B : Nat) (hr : RB w B A l) (hB : B ≤ w.heap.size) (hl : l.length ≤ 1099511627776) (hv : v < two64) :
    Calls Tryd.prog 52 #[.slice A l.length c, .int .u64 (v : Int)] w fun e w' => ∃ b', e = .returned b' ∧ Own w' w.heap.size b' (l ++ numBytes v) ∧ Below w.heap.size w w' := by
  obtain ⟨cs, hown, hmk⟩ := make_cap (l.length + 10) (by omega)
  have hmk' : ∀ u : World, (Instr.makeSlice 35 (.int .i64 0) (.int .i64 ((l.length : Int) + 10))).run Tryd.prog u = .ok (.slice (some ⟨u.heap.size, 0, none⟩) 0 (l.length + 10)) (u.alloc (.cells cs 5)) := hmk
  have Hr := Lib.hid hr
  have HB := Lib.hid hB
  have Hl := Lib.hid hl
  have Hv := Lib.hid hv
  have Hown := Lib.hid hown
  have Hlen : Hid (([] : List UInt8).length + l.length ≤ 140737488355327) := by show _ ≤ _; simp; omega
  clear hr hB hv hown hmk
  go_enter Tryd.func52, Tryd.ntmps52
  go_wp2_with (at_builtin; refine app_bytes rfl (.tmp 10) (.tmp 11) rfl w.heap.size _ [] rfl (Hown.out w _ (Nat.le_refl _)) _ A l.length c l rfl rfl (Hr.out.alloc HB.out _) Hlen.out (by simp) ?_; intro v1 w1 hown1 hbel1 _)
  have Hown1 := Lib.hid hown1
  have Hbel1 := Lib.hid hbel1
  clear hown1 hbel1 hmk'
  go_wp2_with fail
  refine (add_any w.heap.size v1 _ v _ Hv.out Hown1.out (Nat.le_trans (by simp) Hbel1.out.size) (by have := Hl.out; simpa using this)).mono ?_
  rintro e w2 ⟨b', rfl, hown2, hbel2⟩
  have hb := (((Below.refl w.heap.size w).alloc (Nat.le_refl _) (.cells cs 5)).trans Hbel1.out).trans hbel2
  clear hbel2
  go_wp2_with fail
  go_ret
  exact ⟨b', rfl, by simpa using hown2, hb⟩
/-- what is written is read -/
theorem rnGo_forth (f : Nat) : ∀ (i n q : Nat) (r : List UInt8), n < 128 ^ i → i + f = 10 → n + q * 128 ^ i < 18446744073709551616 → (0 < i → 0 < q) → (numBytes q).length ≤ f →
    rnGo f i n (numBytes q ++ r) = (n + q * 128 ^ i, i + (numBytes q).length, 0) := by
  induction f with
  | zero => intro i n q r _ _ _ _ h; have := numBytes_pos q; omega
  | succ f ih =>
    intro i n q r hn hi hlt hq hl
    have top : ¬ (i = 9 ∧ 1 < q) := fun ⟨h1, h2⟩ => by
      subst h1
      have h3 : (128 : Nat) ^ 9 = 9223372036854775808 := by decide
      have : 2 * 128 ^ 9 ≤ q * 128 ^ 9 := Nat.mul_le_mul_right _ h2
      omega
    by_cases h : q < 128
    · rw [numBytes_lt h]
      have hb : (UInt8.ofNat q).toNat = q := by rw [UInt8.toNat_ofNat']; omega
      show rnGo (f + 1) i n (UInt8.ofNat q :: r) = _
      rw [rnGo_end f i n _ r (by rw [hb]; exact top) (by rw [hb]; exact h) (by rw [hb]; omega), hb, Nat.mod_eq_of_lt h]
      rfl
    · rw [numBytes_ge h] at hl ⊢
      have hb : (UInt8.ofNat (q % 128 + 128)).toNat = q % 128 + 128 := by rw [UInt8.toNat_ofNat']; omega
      show rnGo (f + 1) i n (UInt8.ofNat (q % 128 + 128) :: (numBytes (q / 128) ++ r)) = _
      rw [List.length_cons] at hl
      have hp := numBytes_pos (q / 128)
      have hi9 : i < 9 := by omega
      rw [rnGo_more f i n _ _ (by omega) (by rw [hb]; omega), hb, show (q % 128 + 128) % 128 = q % 128 from by omega]
      have hr := rn_room n (q % 128) i hn (by omega) (by omega) (by omega)
      rw [show q % 128 % 128 = q % 128 from by omega] at hr
      have e : n + q % 128 * 128 ^ i + q / 128 * 128 ^ (i + 1) = n + q * 128 ^ i := by
        have : q = q % 128 + 128 * (q / 128) := by omega
        conv => rhs; rw [this, Nat.add_mul, Nat.mul_assoc, Nat.mul_comm 128 (q / 128 * 128 ^ i), Nat.mul_assoc, ← Nat.pow_succ, Nat.succ_eq_add_one]
        omega
      rw [ih (i + 1) _ (q / 128) r hr.1 (by omega) (by rw [e]; exact hlt) (fun _ => by omega) (by omega), e, List.length_cons]
      congr 2
      omega
theorem readNum_forth (v : Nat) (r : List UInt8) (h : v < two64) : readNum (numBytes v ++ r) = (v, (numBytes v).length, 0) := by
  have := rnGo_forth 10 0 0 v r (by decide) rfl (by rw [two64_eq] at h; omega) (by omega) (numBytes_ten h)
  unfold readNum
  rw [this]
  simp

def RBB (w : World) (B : Nat) (A : Option Addr) (ls : List (List UInt8)) : Prop :=
  ∀ k l, ls[k]? = some l → ∃ ad A' c, A = some ad ∧ ad.block < B ∧ w.cell? (ad.add k) = some (.slice A' l.length c) ∧ RB w B A' l ∧ l.length ≤ c
/-- a new slice of one slice -/
theorem RBB.one (w : World) {B : Nat} {A : Option Addr} {l : List UInt8} (c : Nat) (t : TypeId) (h : RB w B A l) (hB : B ≤ w.heap.size) (hc : l.length ≤ c) :
    RBB (w.alloc (.cells #[.slice A l.length c] t)) (w.heap.size + 1) (some ⟨w.heap.size, 0, none⟩) [l] := fun k l' hk => by
  have hk0 : k = 0 := by
    have := (List.getElem?_eq_some_iff.1 hk).1
    simp at this
    exact this
  subst hk0
  have : l' = l := by simpa using hk.symm
  subst this
  refine ⟨_, A, c, rfl, by show w.heap.size < _; omega, ?_, (h.alloc hB _).wide (by omega), hc⟩
  rw [show (⟨w.heap.size, 0, none⟩ : Addr).add 0 = ⟨w.heap.size, 0, none⟩ from rfl, World.cell?_alloc_new]
  rfl
theorem RBB.below {w w' : World} {B : Nat} {A : Option Addr} {ls : List (List UInt8)} (h : RBB w B A ls) (hb : Below B w w') : RBB w' B A ls := fun k l hk => by
  obtain ⟨ad, A', c, e, hlt, hc, hr, hl⟩ := h k l hk
  exact ⟨ad, A', c, e, hlt, (hb.cell (by rw [add_block]; exact hlt)).trans hc, hr.below hb, hl⟩
theorem le_sum (l : List Nat) (n : Nat) (h : n ∈ l) : n ≤ l.sum := by
  induction l with
  | nil => cases h
  | cons x l ih =>
    rw [List.sum_cons]
    cases List.mem_cons.1 h with
    | inl e => subst e; omega
    | inr e => have := ih e; omega
theorem RBB.wide {w : World} {B B' : Nat} {A : Option Addr} {ls : List (List UInt8)} (h : RBB w B A ls) (hB : B ≤ B') : RBB w B' A ls := fun k l hk => by
  obtain ⟨ad, A', c, e, hlt, hc, hr, hl⟩ := h k l hk
  exact ⟨ad, A', c, e, Nat.lt_of_lt_of_le hlt hB, hc, hr.wide hB, hl⟩
theorem RBB.all_le {w : World} {B : Nat} {A : Option Addr} {ls : List (List UInt8)} (_h : RBB w B A ls) (hl : ls.flatten.length ≤ 65536) : ∀ l ∈ ls, l.length ≤ 65536 := by
  intro l hm
  have : l.length ≤ ls.flatten.length := by
    rw [List.length_flatten]
    exact le_sum _ _ (List.mem_map_of_mem hm)
  omega
theorem flatten_take (ls : List (List UInt8)) (k : Nat) (h : k < ls.length) : (ls.take (k + 1)).flatten = (ls.take k).flatten ++ ls[k] := by
  rw [List.take_succ_eq_append_getElem h, List.flatten_append]
  simp

theorem take_flat_le (ls : List (List UInt8)) (k : Nat) : (ls.take k).flatten.length ≤ ls.flatten.length := by
  have h : ls.flatten = (ls.take k).flatten ++ (ls.drop k).flatten := by rw [← List.flatten_append, List.take_append_drop]
  rw [h, List.length_append]
  omega

set_option maxRecDepth 200000 in
set_option maxHeartbeats 4000000 in
theorem bytes_any (A : Option Addr) (c : Nat) (l : List UInt8) (L : Option Addr) (cl : Nat) (ls : List (List UInt8)) (w : World) (hr : RB w w.heap.size A l) (hrr : RBB w w.heap.size L ls) (hl : l.length ≤ 65600) (hll : ls.flatten.length ≤ 65536) (hls : ls.length ≤ 1099511627776) :
    Calls Tryd.prog 26 #[.slice A l.length c, .slice L ls.length cl] w fun e w' => ∃ b', e = .returned b' ∧ Own w' w.heap.size b' (l ++ (numBytes ls.flatten.length ++ ls.flatten)) ∧ Below w.heap.size w w' := by
  have Hall := Lib.hid (hrr.all_le hll)
  have Htl := Lib.hid (fun k => Nat.le_trans (take_flat_le ls k) hll)
  have Hr := Lib.hid hr
  have Hrr := Lib.hid hrr
  have hls' : (ls.length : Int) ≤ 1099511627776 := by omega
  have hlen' : (l.length : Int) ≤ 65600 := by omega
  have Hll := Lib.hid hll
  clear hr hrr hll
  go_enter Tryd.func26, Tryd.ntmps26
  go_wp2_with fail
  go_loop [5, 13] (fun d i => ∃ k : Nat, k ≤ ls.length ∧ i = .int .i64 (k : Int) ∧ ∃ m : Nat, d = .int .i64 (m : Int) ∧ m ≤ 65536 ∧ Hid (m = (ls.take k).flatten.length)) (fun _ i => (ls.length - intOf i).toNat)
  case atStart => exact ⟨0, by omega, rfl, 0, rfl, by omega, rfl⟩
  case round =>
    obtain ⟨k, hk, rfl, m, rfl, hm, hmeq⟩ := hrel
    by_cases hkl : k < ls.length
    · obtain ⟨ad, A', c', rfl, hb, hc, hrb, hcap⟩ := Hrr.out k _ (List.getElem?_eq_getElem hkl)
      have h3 : ls[k].length ≤ 65536 := Hall.out _ (List.getElem_mem hkl)
      have h3' : (ls[k].length : Int) ≤ 65536 := by omega
      have Hnext : Hid (m + ls[k].length = (ls.take (k + 1)).flatten.length) := by show _ = _; rw [flatten_take ls k hkl, List.length_append, ← hmeq.out]
      have Hle : Hid (m + ls[k].length ≤ 65536) := by show _ ≤ _; rw [Hnext.out]; exact Htl.out (k + 1)
      clear hrb
      go_wp2_with fail
      exact ⟨⟨k + 1, by omega, by go_num, m + ls[k].length, by go_num, Hle.out, Hnext.out⟩, by simp [intOf]; omega⟩
    · obtain rfl : k = ls.length := by omega
      have Hm : Hid (m = ls.flatten.length) := by have := hmeq.out; rw [List.take_length] at this; exact this
      obtain ⟨cs, hown, hmk⟩ := make_cap (l.length + 10 + m) (by omega)
      have hmk' : ∀ u : World, (Instr.makeSlice 35 (.int .i64 0) (.int .i64 ((l.length : Int) + 10 + (m : Int)))).run Tryd.prog u = .ok (.slice (some ⟨u.heap.size, 0, none⟩) 0 (l.length + 10 + m)) (u.alloc (.cells cs 5)) := hmk
      have Hown := Lib.hid hown
      have Hlen : Hid (([] : List UInt8).length + l.length ≤ 140737488355327) := by show _ ≤ _; simp; omega
      have hwm : IntKind.u64.wrap (m : Int) = (m : Int) := by rw [IntKind.wrap_u64]; omega
      have hm' : (m : Int) ≤ 65536 := by omega
      clear hown hmk hmeq
      go_wp2_with (at_builtin; refine app_bytes rfl (.tmp 28) (.tmp 29) rfl w.heap.size _ [] rfl (Hown.out w _ (Nat.le_refl _)) _ A l.length c l rfl rfl (Hr.out.alloc (Nat.le_refl _) _) Hlen.out (by simp) ?_; intro v1 w1 hown1 hbel1 _)
      clear hmk'
      have Hown1 : Hid (Own w1 w.heap.size v1 l) := hown1
      have Hbel1 := Lib.hid (((Below.refl w.heap.size w).alloc (Nat.le_refl _) (.cells cs 5)).trans hbel1)
      clear hown1 hbel1
      refine (add_any w.heap.size v1 _ m _ (by rw [two64_eq]; omega) Hown1.out Hbel1.out.size (by omega)).mono ?_
      rintro e w2 ⟨b2, rfl, hown2, hbel2⟩
      have Hown2 := Lib.hid hown2
      have Hbel2 := Lib.hid (Hbel1.out.trans hbel2)
      clear hown2 hbel2
      go_wp2_with fail
      go_loopw [8, 36] (fun b i wr => ∃ k : Nat, k ≤ ls.length ∧ i = .int .i64 (k : Int) ∧ Hid (Own wr w.heap.size b (l ++ (numBytes m ++ (ls.take k).flatten))) ∧ Hid (Below w.heap.size w wr)) (fun _ i _ => (ls.length - intOf i).toNat)
      case atStart => exact ⟨0, by omega, rfl, by show Own _ _ _ _; simp only [List.take_zero, List.flatten_nil, List.append_nil]; exact Hown2.out, Hbel2.out⟩
      case round =>
        obtain ⟨k, hk2, rfl, hown, hbel⟩ := hrel
        by_cases hkl2 : k < ls.length
        · obtain ⟨ad, A', c', rfl, hb, hc, hrb, hcap⟩ := (Hrr.out.below hbel.out) k _ (List.getElem?_eq_getElem hkl2)
          have h3 : ls[k].length ≤ 65536 := Hall.out _ (List.getElem_mem hkl2)
          have Hrb := Lib.hid hrb
          have Hlen2 : Hid ((l ++ (numBytes m ++ (ls.take k).flatten)).length + ls[k].length ≤ 140737488355327) := by
            show _ ≤ _
            have h4 := numBytes_ten (v := m) (by rw [two64_eq]; omega)
            have h5 := Htl.out k
            rw [List.length_append, List.length_append]
            omega
          have Hsz : Hid (w.heap.size ≤ wr.heap.size) := hbel.out.size
          have Hft := Lib.hid (flatten_take ls k hkl2)
          clear hrb
          go_wp2_with (at_builtin; refine app_bytes rfl (.tmp 40) (.tmp 41) rfl w.heap.size _ _ rfl hown.out _ A' ls[k].length c' ls[k] rfl rfl Hrb.out Hlen2.out Hsz.out ?_; intro v3 w3 hown3 hbel3 _)
          exact ⟨⟨k + 1, by omega, by go_num, by
            show Own _ _ _ _
            rw [Hft.out]
            simp only [List.append_assoc] at hown3 ⊢
            exact hown3, hbel.out.trans hbel3⟩, by simp [intOf]; omega⟩
        · obtain rfl : k = ls.length := by omega
          go_wp2_with fail
          go_ret
          refine ⟨_, rfl, ?_, hbel.out⟩
          have h := hown.out
          rw [List.take_length, Hm.out] at h
          exact h
end Go.Proofs.YtkjogkmdldplgaaDoor

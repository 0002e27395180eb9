/-
  Numbers, seven bits a byte: what both programs' writers of numbers tell.
-/
import Derived.Test.YtkjogkmdldplgaaDoorBase
namespace Go.Proofs.YtkjogkmdldplgaaDoor
open Go.RowKit

/-- seven bits a byte, the lowest first -/
def numBytes (v : Nat) : List UInt8 :=
  if h : v < 128 then [UInt8.ofNat v] else UInt8.ofNat (v % 128 + 128) :: numBytes (v / 128)
termination_by v
decreasing_by omega
theorem numBytes_lt {v : Nat} (h : v < 128) : numBytes v = [UInt8.ofNat v] := by rw [numBytes]; simp [h]
theorem numBytes_ge {v : Nat} (h : ¬ v < 128) : numBytes v = UInt8.ofNat (v % 128 + 128) :: numBytes (v / 128) := by rw [numBytes]; simp [h]
theorem numBytes_len (n : Nat) : ∀ v : Nat, v < 128 ^ (n + 1) → (numBytes v).length ≤ n + 1 := by
  induction n with
  | zero => intro v hv; rw [numBytes_lt (by simpa using hv)]; simp
  | succ n ih =>
    intro v hv
    by_cases h : v < 128
    · rw [numBytes_lt h]; simp
    · rw [numBytes_ge h, List.length_cons]
      have := ih (v / 128) (by rw [Nat.div_lt_iff_lt_mul (by omega)]; rw [Nat.pow_succ] at hv; exact hv)
      omega
theorem numBytes_pos (v : Nat) : 1 ≤ (numBytes v).length := by
  by_cases h : v < 128
  · rw [numBytes_lt h]; simp
  · rw [numBytes_ge h]; simp
/-- 2 to the 64, behind a name: so great a numeral stops a walk -/
def two64 : Nat := 18446744073709551616
theorem two64_eq : two64 = 18446744073709551616 := rfl
theorem numBytes_ten {v : Nat} (h : v < two64) : (numBytes v).length ≤ 10 := numBytes_len 9 v (Nat.lt_of_lt_of_le h (by decide))

theorem byte_low (v : Nat) (h : v < 128) : IntKind.u8.wrap (v : Int) = ((UInt8.ofNat v).toNat : Int) := by
  rw [IntKind.wrap_u8', UInt8.toNat_ofNat']; omega
theorem byte_high (v : Nat) : bits .or .u8 (IntKind.u8.wrap (v : Int)) 128 = ((UInt8.ofNat (v % 128 + 128)).toNat : Int) := by
  rw [IntKind.wrap_u8']
  have e : (v : Int) % 256 = ((v % 256 : Nat) : Int) := by omega
  have e2 : (128 : Int) = ((128 : Nat) : Int) := rfl
  rw [e, e2, u8_or_nat _ _ (by omega) (by omega), UInt8.toNat_ofNat']
  have : v % 256 ||| 128 = v % 128 + 128 := by
    have h : ∀ x : Fin 256, x.val ||| 128 = x.val % 128 + 128 := by decide +kernel
    have := h ⟨v % 256, by omega⟩
    simp only at this
    rw [this]
    omega
  rw [this]
  omega

set_option maxRecDepth 20000 in
set_option maxHeartbeats 400000 in
theorem add_any (base : Nat) (b : Value) (l : List UInt8) (v : Nat) (w : World) (hv : v < two64) (hown : Own w base b l) (hbase : base ≤ w.heap.size) (hl : l.length ≤ 1099511627776) :
    Calls Tryd.prog 46 #[b, .int .u64 (v : Int)] w fun e w' => ∃ b', e = .returned b' ∧ Own w' base b' (l ++ numBytes v) ∧ Below base w w' := by
  go_enter Tryd.func46, Tryd.ntmps46
  go_wp2
  go_loopw [0, 1] (fun b n wr => ∃ (k : Nat) (done : List UInt8), n = .int .u64 (k : Int) ∧ k < two64 ∧ k ≤ v ∧ done.length + (numBytes k).length ≤ l.length + 10 ∧ Own wr base b done ∧ Below base w wr ∧ Hid (l ++ numBytes v = done ++ numBytes k)) (fun _ n _ => (intOf n).toNat)
  case atStart => exact ⟨v, l, rfl, hv, Nat.le_refl _, by have := numBytes_ten hv; omega, hown, Below.refl _ _, rfl⟩
  case round =>
    obtain ⟨k, done, rfl, hk, hkv, hlen, hown1, hb1, heq⟩ := hrel
    have Hk := Lib.hid hk
    have Hl := Lib.hid hlen
    have Hv := Lib.hid hkv
    have Ho := Lib.hid hown1
    have Hll := Lib.hid hl
    clear hk hlen hkv hown1 hown hv hl
    have Hr : Hid (done.length + ([UInt8.ofNat k] : List UInt8).length ≤ 140737488355327) := by
      have := Hl.out
      have h1 : 1 ≤ (numBytes k).length := numBytes_pos k
      have := Hll.out
      simp only [List.length_cons, List.length_nil]
      show _ ≤ _
      omega
    have hb1' : Hid (base ≤ wr.heap.size) := Nat.le_trans hbase hb1.size
    have Hs : Hid (∀ o, base ≤ (wr.alloc o).heap.size) := fun o => by
      have := hb1.size
      simp
      omega
    by_cases h128 : 128 ≤ k
    · have Hb : Hid (#[Value.int .u8 (bits .or .u8 ((k : Int) % 256) 128)].toList = bvs [UInt8.ofNat (k % 128 + 128)]) := by
        have := byte_high k
        rw [IntKind.wrap_u8'] at this
        show _ = _
        rw [this]
        rfl
      go_wp2_with (at_builtin; refine app_bytes rfl (.tmp 7) (.tmp 11) rfl base _ done rfl (Own.alloc Ho.out _) _ _ 1 1 [UInt8.ofNat (k % 128 + 128)] rfl rfl (RB.new _ _ _ _ Hb.out) Hr.out (Hs.out _) ?_; intro v1 w1 hown2 hbel _)
      have hbl : Below base w w1 := (hb1.alloc hb1'.out _).trans hbel
      have hd : k / 128 < k := by omega
      have he : numBytes k = UInt8.ofNat (k % 128 + 128) :: numBytes (k / 128) := numBytes_ge (by omega)
      have h1 := Hk.out
      have h2 := Hl.out
      have h3 := Hv.out
      rw [he] at h2
      exact ⟨⟨k / 128, _, by go_num, by omega, by omega, by simp only [List.length_append, List.length_cons, List.length_nil] at h2 ⊢; omega, hown2, hbl, by have := heq.out; rw [he] at this; show _ = _; rw [this]; simp⟩, by simp [intOf]; omega⟩
    · have Hb : Hid (#[Value.int .u8 (k : Int)].toList = bvs [UInt8.ofNat k]) := by
        have : (k : Int) = ((UInt8.ofNat k).toNat : Int) := by rw [UInt8.toNat_ofNat']; omega
        show _ = _
        rw [this]
        rfl
      go_wp2_with (at_builtin; refine app_bytes rfl (.tmp 15) (.tmp 18) rfl base _ done rfl (Own.alloc Ho.out _) _ _ 1 1 [UInt8.ofNat k] rfl rfl (RB.new _ _ _ _ Hb.out) Hr.out (Hs.out _) ?_; intro v1 w1 hown2 hbel _)
      have hbl : Below base w w1 := (hb1.alloc hb1'.out _).trans hbel
      go_ret
      exact ⟨v1, rfl, by rw [heq.out, numBytes_lt (by omega)]; exact hown2, hbl⟩

end Go.Proofs.YtkjogkmdldplgaaDoor

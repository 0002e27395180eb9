/-
  slices.Sort at numbers of 64 bits.
-/
import Derived.Test.YtejimgjonhaocaaMeS13
namespace Go.Proofs.Ytejimgjonhaocaa
open Go.RowKit Go.Maps Go.Shelf Go.Lib Go.Sort

section
set_option maxRecDepth 100000
set_option maxHeartbeats 4000000
variable {w0 W : World} {g off z cap : Nat} {d0 : Array Int}
theorem sort_any (R : Row1 eU w0 g off d0) (hz : d0.size = z) (hz1 : z ≤ 255) (d : Array Int) (S : SR w0 g off z d W) :
    Calls Try.prog 44 #[.slice (some ⟨g, off, none⟩) z cap] W (SortedP w0 g off z d 0 z) := by
  have HL := Lib.hid fun w => len_any z (by omega) w
  have HP : Hid (Calls Try.prog 47 #[.slice (some ⟨g, off, none⟩) z cap, .int .i64 0, .int .i64 (z : Int), .int .i64 (bitsLen z : Nat)] W (SortedP w0 g off z d 0 z)) :=
    pdq_any R hz hz1 (z + 1) 0 z (bitsLen z) d W (by omega) (Nat.zero_le _) (Nat.le_refl _) (by have h := Lib.bitLen_le8' (z : Int) (by omega) (by omega); rw [Int.toNat_natCast, bitLen_small z (by omega)] at h; omega) (.inl rfl) S
  have wr : IntKind.u64.wrap (z : Int) = z := by rw [IntKind.wrap_u64]; omega
  clear R hz hz1 S
  go_enter Try.func44, Try.ntmps44
  go_wp2_with (first | (go_at_call 48; refine (HL.out _).mono ?_; rintro e w2 ⟨rfl, rfl⟩) | (go_at_call 47; refine HP.out.mono ?_; rintro e w2 ⟨rfl, hd⟩))
  go_end0
  exact ⟨rfl, hd⟩
/-- of nothing -/
theorem insertion_none (W : World) : Calls Try.prog 49 #[.slice none 0 0, .int .i64 0, .int .i64 0] W fun e w' => e = .returned (.tuple #[]) ∧ w' = W := by
  go_enter Try.func49, Try.ntmps49
  go_wp2_with fail
  go_loopw [6] (fun iv wr => iv = .int .i64 1 ∧ wr = W) (fun _ _ => 0)
  case atStart => exact ⟨rfl, rfl⟩
  case round =>
    obtain ⟨rfl, rfl⟩ := hrel
    go_wp2_with fail
    go_end0
    exact ⟨rfl, rfl⟩
theorem pdq_none (W : World) (l : Int) : Calls Try.prog 47 #[.slice none 0 0, .int .i64 0, .int .i64 0, .int .i64 l] W fun e w' => e = .returned (.tuple #[]) ∧ w' = W := by
  have HI := Lib.hid fun w => insertion_none w
  go_enter Try.func47, Try.ntmps47
  go_wp2_with fail
  go_loopw [1, 2] (fun av bv wr => av = .int .i64 0 ∧ bv = .int .i64 0 ∧ wr = W) (fun _ _ _ => 0)
  case atStart => exact ⟨rfl, rfl, rfl⟩
  case round =>
    obtain ⟨rfl, rfl, rfl⟩ := hrel
    go_wp2_with (go_at_call 49; refine (HI.out _).mono ?_; rintro e w1 ⟨rfl, rfl⟩)
    (try simp only [Exit.inBlock, Exit.then]); refine bodyPost_ret (results_none rfl _ _ _) rfl ?_
    exact ⟨rfl, rfl⟩
theorem sort_none (W : World) : Calls Try.prog 44 #[.slice none 0 0] W fun e w' => e = .returned (.tuple #[]) ∧ w' = W := by
  have HL := Lib.hid fun w => len_any 0 (by omega) w
  have HP := Lib.hid fun l w => pdq_none w l
  go_enter Try.func44, Try.ntmps44
  go_wp2_with (first | (go_at_call 48; refine (HL.out _).mono ?_; rintro e w2 ⟨rfl, rfl⟩) | (go_at_call 47; refine (HP.out _ _).mono ?_; rintro e w2 ⟨rfl, rfl⟩))
  go_end0
  exact ⟨rfl, rfl⟩
end
end Go.Proofs.Ytejimgjonhaocaa

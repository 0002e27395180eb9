/-
  Pages of unlike heads or payloads are unlike.
-/
import Derived.Test.YtnphlaolinalkaaDoorPageSpec
namespace Go.Proofs.YtnphlaolinalkaaDoor
open Go.RowKit

theorem leBytes_inj (n a b : Nat) (ha : a < 256 ^ n) (hb : b < 256 ^ n) (h : leBytes n a = leBytes n b) : a = b := by
  have := congrArg leNat h
  rw [leNat_leBytes, leNat_leBytes, Nat.mod_eq_of_lt ha, Nat.mod_eq_of_lt hb] at this
  exact this
theorem front_inj {α : Type} {a b c d : List α} (h : a ++ b = c ++ d) (hl : a.length = c.length) : a = c ∧ b = d := List.append_inj h hl
theorem pageBody_inj {n seg row shard seg' row' shard' : Nat} {x x' : List UInt8} (h1 : seg < two64) (h2 : row ≤ 1073741824) (h3 : shard ≤ 255) (h4 : x.length ≤ 65535)
    (h1' : seg' < two64) (h2' : row' ≤ 1073741824) (h3' : shard' ≤ 255) (h4' : x'.length ≤ 65535) (h : pageBody n seg row shard x = pageBody n seg' row' shard' x') :
    seg = seg' ∧ row = row' ∧ shard = shard' ∧ x = x' := by
  unfold pageBody at h
  obtain ⟨a1, h⟩ := front_inj h (by rw [leBytes_length, leBytes_length])
  obtain ⟨a2, h⟩ := front_inj h (by rw [leBytes_length, leBytes_length])
  obtain ⟨a3, h⟩ := front_inj h (by rw [leBytes_length, leBytes_length])
  obtain ⟨a4, h⟩ := front_inj h (by rw [leBytes_length, leBytes_length])
  have e4 := leBytes_inj 2 _ _ (by omega) (by omega) a4
  obtain ⟨a5, _⟩ := front_inj h e4
  rw [two64_eq] at h1 h1'
  refine ⟨leBytes_inj 8 _ _ (by omega) (by omega) a1, leBytes_inj 4 _ _ (by omega) (by omega) a2, leBytes_inj 1 _ _ (by omega) (by omega) a3, a5⟩
theorem pageBytes_inj {n seg row shard seg' row' shard' : Nat} {x x' : List UInt8} (h1 : seg < two64) (h2 : row ≤ 1073741824) (h3 : shard ≤ 255) (h4 : x.length ≤ 65535)
    (h1' : seg' < two64) (h2' : row' ≤ 1073741824) (h3' : shard' ≤ 255) (h4' : x'.length ≤ 65535) (h : pageBytes n seg row shard x = pageBytes n seg' row' shard' x') :
    seg = seg' ∧ row = row' ∧ shard = shard' ∧ x = x' := by
  unfold pageBytes at h
  obtain ⟨_, h⟩ := front_inj h (by rw [leBytes_length, leBytes_length])
  exact pageBody_inj h1 h2 h3 h4 h1' h2' h3' h4' h
end Go.Proofs.YtnphlaolinalkaaDoor

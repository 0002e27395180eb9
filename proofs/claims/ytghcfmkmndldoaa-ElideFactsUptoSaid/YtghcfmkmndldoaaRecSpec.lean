/-
  A record's bytes, as plain lists.
-/
import Derived.Test.YtghcfmkmndldoaaPageSpec
namespace Go.Proofs.Ytghcfmkmndldoaa
open Go.RowKit

def recBody (seq : Nat) (x : List UInt8) : List UInt8 := leBytes 8 seq ++ x
def recBytes (seq : Nat) (x : List UInt8) : List UInt8 := numBytes x.length ++ (leBytes 4 (sumOf (recBody seq x)) ++ recBody seq x)
theorem recBody_length (seq : Nat) (x : List UInt8) : (recBody seq x).length = 8 + x.length := by simp [recBody, leBytes_length]
theorem recBytes_length (seq : Nat) (x : List UInt8) : (recBytes seq x).length = (numBytes x.length).length + 12 + x.length := by
  simp only [recBytes, List.length_append, recBody_length, leBytes_length]; omega
theorem rec_list (n k seq : Nat) (x nb : List UInt8) (hk : nb.length = k) (hn : n = k + 12 + x.length) :
    splat (splat (splat (List.replicate n 0) 0 nb) (k + 4) (leBytes 8 seq)) (k + 12) x = nb ++ (List.replicate 4 0 ++ recBody seq x) := by
  subst hk hn
  have h0 : splat (List.replicate (nb.length + 12 + x.length) (0 : UInt8)) 0 nb = (nb ++ List.replicate 4 0) ++ List.replicate (8 + x.length) 0 := by
    simp only [splat, List.take_zero, List.nil_append, Nat.zero_add, drop_noughts, List.append_assoc, List.replicate_append_replicate]
    congr 2
    omega
  rw [h0, splat_at _ _ _ (nb.length + 4) (by simp) (by simp [leBytes_length]), drop_noughts, leBytes_length, ← List.append_assoc,
    splat_at _ _ _ (nb.length + 12) (by simp [leBytes_length]) (by simp), drop_noughts]
  simp [recBody]
theorem rec_list2 (k seq : Nat) (x nb : List UInt8) (hk : nb.length = k) : splat (nb ++ (List.replicate 4 0 ++ recBody seq x)) k (leBytes 4 (sumOf (recBody seq x))) = nb ++ (leBytes 4 (sumOf (recBody seq x)) ++ recBody seq x) := by
  rw [splat_at _ _ _ k hk (by simp [leBytes_length])]
  simp [leBytes_length]
end Go.Proofs.Ytghcfmkmndldoaa

/-
  A page's bytes, as plain lists.
-/
import Derived.Test.YtghcfmkmndldoaaRoom
import Derived.Test.YtghcfmkmndldoaaCrc
namespace Go.Proofs.Ytghcfmkmndldoaa
open Go.RowKit

/-- what follows a page's sum -/
def pageBody (n seg row shard : Nat) (x : List UInt8) : List UInt8 :=
  leBytes 8 seg ++ (leBytes 4 row ++ (leBytes 1 shard ++ (leBytes 2 x.length ++ (x ++ List.replicate (n - 19 - x.length) 0))))
def pageBytes (n seg row shard : Nat) (x : List UInt8) : List UInt8 := leBytes 4 (sumOf (pageBody n seg row shard x)) ++ pageBody n seg row shard x
theorem pageBody_length (n seg row shard : Nat) (x : List UInt8) (h : x.length + 19 ≤ n) : (pageBody n seg row shard x).length = n - 4 := by
  simp [pageBody, leBytes_length]; omega
theorem pageBytes_length (n seg row shard : Nat) (x : List UInt8) (h : x.length + 19 ≤ n) : (pageBytes n seg row shard x).length = n := by
  simp only [pageBytes, List.length_append, leBytes_length, pageBody_length n seg row shard x h]; omega
/-- which error a page of such numbers is answered by; 0 for none -/
def pageErr (s row shard : Int) (len : Nat) : Nat :=
  if roomOf s = 0 ∨ row < 0 ∨ 1073741824 < row ∨ shard < 0 ∨ 255 < shard then 1 else if roomOf s < len then 3 else 0

/-- one stretch laid behind another -/
theorem splat_at (p r l : List UInt8) (off : Nat) (h : p.length = off) (hl : r.length ≤ l.length) : splat (p ++ l) off r = p ++ (r ++ l.drop r.length) := by
  subst h
  simp [splat, List.drop_append]
theorem drop_noughts (k m : Nat) : (List.replicate m (0 : UInt8)).drop k = List.replicate (m - k) 0 := List.drop_replicate
/-- all that is laid into a page ahead of its sum -/
theorem page_list (n seg row shard : Nat) (x : List UInt8) (h : x.length + 19 ≤ n) :
    splat (splat (splat (splat (splat (List.replicate n 0) 4 (leBytes 8 seg)) 12 (leBytes 4 row)) 16 (leBytes 1 shard)) 17 (leBytes 2 x.length)) 19 x = List.replicate 4 0 ++ pageBody n seg row shard x := by
  have h0 : List.replicate n (0 : UInt8) = List.replicate 4 0 ++ List.replicate (n - 4) 0 := by
    rw [List.replicate_append_replicate]; congr 1; omega
  rw [h0, splat_at _ _ _ 4 (by simp) (by simp [leBytes_length]; omega), drop_noughts, leBytes_length, ← List.append_assoc,
    splat_at _ _ _ 12 (by simp [leBytes_length]) (by simp [leBytes_length]; omega), drop_noughts, leBytes_length, ← List.append_assoc,
    splat_at _ _ _ 16 (by simp [leBytes_length]) (by simp [leBytes_length]; omega), drop_noughts, leBytes_length, ← List.append_assoc,
    splat_at _ _ _ 17 (by simp [leBytes_length]) (by simp [leBytes_length]; omega), drop_noughts, leBytes_length, ← List.append_assoc,
    splat_at _ _ _ 19 (by simp [leBytes_length]) (by simp; omega), drop_noughts]
  have e : n - 4 - 8 - 4 - 1 - 2 - x.length = n - 19 - x.length := by omega
  rw [e]
  simp only [pageBody, List.append_assoc]
theorem page_list2 (n seg row shard : Nat) (x : List UInt8) : splat (List.replicate 4 0 ++ pageBody n seg row shard x) 0 (leBytes 4 (sumOf (pageBody n seg row shard x))) = pageBytes n seg row shard x := by
  simp [splat, leBytes_length, pageBytes]
end Go.Proofs.Ytghcfmkmndldoaa

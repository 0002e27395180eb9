/-
  A page's bytes, as plain lists.
-/
import Derived.Test.YtlficcdbnmheeaaDoorKGet
import Derived.Test.YtlficcdbnmheeaaDoorKGfMath
namespace Go.Proofs.YtlficcdbnmheeaaDoor
open Go.RowKit

/-- what follows a page's sum -/
def pageBody (n seg row shard : Nat) (x : List UInt8) : List UInt8 :=
  leBytes 8 seg ++ (leBytes 4 row ++ (leBytes 1 shard ++ (leBytes 2 x.length ++ (x ++ List.replicate (n - 19 - x.length) 0))))
def pageBytes (n seg row shard : Nat) (x : List UInt8) : List UInt8 := leBytes 4 (sumOf (pageBody n seg row shard x)) ++ pageBody n seg row shard x
theorem pageBody_length (n seg row shard : Nat) (x : List UInt8) (h : x.length + 19 ≤ n) : (pageBody n seg row shard x).length = n - 4 := by
  simp [pageBody, leBytes_length]; omega
theorem pageBytes_length (n seg row shard : Nat) (x : List UInt8) (h : x.length + 19 ≤ n) : (pageBytes n seg row shard x).length = n := by
  simp only [pageBytes, List.length_append, leBytes_length, pageBody_length n seg row shard x h]; omega
/-- which error a page of such numbers is answered by; 0 for none -/
def pageErr (s row shard : Int) (len : Nat) : Nat :=
  if roomOf s = 0 ∨ row < 0 ∨ 1073741824 < row ∨ shard < 0 ∨ 255 < shard then 1 else if roomOf s < len then 3 else 0

/-- one stretch laid behind another -/
theorem splat_at (p r l : List UInt8) (off : Nat) (h : p.length = off) (_hl : r.length ≤ l.length) : splat (p ++ l) off r = p ++ (r ++ l.drop r.length) := by
  subst h
  simp [splat, List.drop_append]
theorem drop_noughts (k m : Nat) : (List.replicate m (0 : UInt8)).drop k = List.replicate (m - k) 0 := List.drop_replicate
/-- all that is laid into a page ahead of its sum -/
theorem page_list (n seg row shard : Nat) (x : List UInt8) (h : x.length + 19 ≤ n) :
    splat (splat (splat (splat (splat (List.replicate n 0) 4 (leBytes 8 seg)) 12 (leBytes 4 row)) 16 (leBytes 1 shard)) 17 (leBytes 2 x.length)) 19 x = List.replicate 4 0 ++ pageBody n seg row shard x := by
  have h0 : List.replicate n (0 : UInt8) = List.replicate 4 0 ++ List.replicate (n - 4) 0 := by
    rw [List.replicate_append_replicate]; congr 1; omega
  rw [h0, splat_at _ _ _ 4 (by simp) (by simp [leBytes_length]; omega), drop_noughts, leBytes_length, ← List.append_assoc,
    splat_at _ _ _ 12 (by simp [leBytes_length]) (by simp [leBytes_length]; omega), drop_noughts, leBytes_length, ← List.append_assoc,
    splat_at _ _ _ 16 (by simp [leBytes_length]) (by simp [leBytes_length]; omega), drop_noughts, leBytes_length, ← List.append_assoc,
    splat_at _ _ _ 17 (by simp [leBytes_length]) (by simp [leBytes_length]; omega), drop_noughts, leBytes_length, ← List.append_assoc,
    splat_at _ _ _ 19 (by simp [leBytes_length]) (by simp; omega), drop_noughts]
  have e : n - 4 - 8 - 4 - 1 - 2 - x.length = n - 19 - x.length := by omega
  rw [e]
  simp only [pageBody, List.append_assoc]
theorem page_list2 (n seg row shard : Nat) (x : List UInt8) : splat (List.replicate 4 0 ++ pageBody n seg row shard x) 0 (leBytes 4 (sumOf (pageBody n seg row shard x))) = pageBytes n seg row shard x := by
  simp [splat, leBytes_length, pageBytes]
end Go.Proofs.YtlficcdbnmheeaaDoor

/-
  A record's bytes, as plain lists.
-/
namespace Go.Proofs.YtlficcdbnmheeaaDoor
open Go.RowKit

def recBody (seq : Nat) (x : List UInt8) : List UInt8 := leBytes 8 seq ++ x
def recBytes (seq : Nat) (x : List UInt8) : List UInt8 := numBytes x.length ++ (leBytes 4 (sumOf (recBody seq x)) ++ recBody seq x)
theorem recBody_length (seq : Nat) (x : List UInt8) : (recBody seq x).length = 8 + x.length := by simp [recBody, leBytes_length]
theorem recBytes_length (seq : Nat) (x : List UInt8) : (recBytes seq x).length = (numBytes x.length).length + 12 + x.length := by
  simp only [recBytes, List.length_append, recBody_length, leBytes_length]; omega
theorem rec_list (n k seq : Nat) (x nb : List UInt8) (hk : nb.length = k) (hn : n = k + 12 + x.length) :
    splat (splat (splat (List.replicate n 0) 0 nb) (k + 4) (leBytes 8 seq)) (k + 12) x = nb ++ (List.replicate 4 0 ++ recBody seq x) := by
  subst hk hn
  have h0 : splat (List.replicate (nb.length + 12 + x.length) (0 : UInt8)) 0 nb = (nb ++ List.replicate 4 0) ++ List.replicate (8 + x.length) 0 := by
    simp only [splat, List.take_zero, List.nil_append, Nat.zero_add, drop_noughts, List.append_assoc, List.replicate_append_replicate]
    congr 2
    omega
  rw [h0, splat_at _ _ _ (nb.length + 4) (by simp) (by simp [leBytes_length]), drop_noughts, leBytes_length, ← List.append_assoc,
    splat_at _ _ _ (nb.length + 12) (by simp [leBytes_length]) (by simp), drop_noughts]
  simp [recBody]
theorem rec_list2 (k seq : Nat) (x nb : List UInt8) (hk : nb.length = k) : splat (nb ++ (List.replicate 4 0 ++ recBody seq x)) k (leBytes 4 (sumOf (recBody seq x))) = nb ++ (leBytes 4 (sumOf (recBody seq x)) ++ recBody seq x) := by
  rw [splat_at _ _ _ k hk (by simp [leBytes_length])]
  simp [leBytes_length]
end Go.Proofs.YtlficcdbnmheeaaDoor

/-
  Pages of unlike heads or payloads are unlike.
-/
namespace Go.Proofs.YtlficcdbnmheeaaDoor
open Go.RowKit

theorem leBytes_inj (n a b : Nat) (ha : a < 256 ^ n) (hb : b < 256 ^ n) (h : leBytes n a = leBytes n b) : a = b := by
  have := congrArg leNat h
  rw [leNat_leBytes, leNat_leBytes, Nat.mod_eq_of_lt ha, Nat.mod_eq_of_lt hb] at this
  exact this
theorem front_inj {α : Type} {a b c d : List α} (h : a ++ b = c ++ d) (hl : a.length = c.length) : a = c ∧ b = d := List.append_inj h hl
theorem pageBody_inj {n seg row shard seg' row' shard' : Nat} {x x' : List UInt8} (h1 : seg < two64) (h2 : row ≤ 1073741824) (h3 : shard ≤ 255) (h4 : x.length ≤ 65535)
    (h1' : seg' < two64) (h2' : row' ≤ 1073741824) (h3' : shard' ≤ 255) (h4' : x'.length ≤ 65535) (h : pageBody n seg row shard x = pageBody n seg' row' shard' x') :
    seg = seg' ∧ row = row' ∧ shard = shard' ∧ x = x' := by
  unfold pageBody at h
  obtain ⟨a1, h⟩ := front_inj h (by rw [leBytes_length, leBytes_length])
  obtain ⟨a2, h⟩ := front_inj h (by rw [leBytes_length, leBytes_length])
  obtain ⟨a3, h⟩ := front_inj h (by rw [leBytes_length, leBytes_length])
  obtain ⟨a4, h⟩ := front_inj h (by rw [leBytes_length, leBytes_length])
  have e4 := leBytes_inj 2 _ _ (by omega) (by omega) a4
  obtain ⟨a5, _⟩ := front_inj h e4
  rw [two64_eq] at h1 h1'
  refine ⟨leBytes_inj 8 _ _ (by omega) (by omega) a1, leBytes_inj 4 _ _ (by omega) (by omega) a2, leBytes_inj 1 _ _ (by omega) (by omega) a3, a5⟩
theorem pageBytes_inj {n seg row shard seg' row' shard' : Nat} {x x' : List UInt8} (h1 : seg < two64) (h2 : row ≤ 1073741824) (h3 : shard ≤ 255) (h4 : x.length ≤ 65535)
    (h1' : seg' < two64) (h2' : row' ≤ 1073741824) (h3' : shard' ≤ 255) (h4' : x'.length ≤ 65535) (h : pageBytes n seg row shard x = pageBytes n seg' row' shard' x') :
    seg = seg' ∧ row = row' ∧ shard = shard' ∧ x = x' := by
  unfold pageBytes at h
  obtain ⟨_, h⟩ := front_inj h (by rw [leBytes_length, leBytes_length])
  exact pageBody_inj h1 h2 h3 h4 h1' h2' h3' h4' h
end Go.Proofs.YtlficcdbnmheeaaDoor

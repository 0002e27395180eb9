/-
  The rounds that drop the dead: plain data, for MediumDead.
-/
import Derived.Test.YtejimgjonhaocaaMeD5
import Derived.Test.YtejimgjonhaocaaMe7
namespace Go.Proofs.Ytejimgjonhaocaa
open Go.RowKit

/-- the numbers of the dead that are left -/
def deadK (L K : List Md) (rs : List Nat) : List Nat := (K.map Md.id).filter fun n => !aliveL L rs n
section
variable {dep nxt : Nat} {L K : List Md} {rs : List Nat}
/-- a round under way: of ns the first i have been tried, nx could not go -/
structure PassSt (dep nxt : Nat) (L K : List Md) (rs ns nx : List Nat) (i : Nat) : Prop where
  ok : Ok dep nxt K
  left : Left L K rs
  ids : deadK L K rs = nx ++ ns.drop i
  len : nx.length ≤ i
theorem deadK_rise (hr : K.Pairwise (fun a b => a.id < b.id)) : (deadK L K rs).Pairwise (· < ·) := by
  unfold deadK
  exact (List.pairwise_map.2 hr).filter _
theorem mem_deadK {n : Nat} : n ∈ deadK L K rs ↔ (∃ m ∈ K, m.id = n) ∧ aliveL L rs n = false := by
  unfold deadK
  rw [List.mem_filter, List.mem_map]
  simp
theorem deadK_drop (n : Nat) : deadK L (dropL K n) rs = (deadK L K rs).filter fun k => k != n := by
  unfold deadK dropL
  rw [List.filter_map, List.filter_map, List.filter_map, List.filter_filter, List.filter_filter]
  congr 1
  refine List.filter_congr fun m _ => ?_
  simp only [Function.comp]
  rw [Bool.and_comm]
/-- it could not go -/
theorem PassSt.stay {ns nx : List Nat} {i n : Nat} (h : PassSt dep nxt L K rs ns nx i) (hn : ns[i]? = some n) : PassSt dep nxt L K rs ns (nx ++ [n]) (i + 1) := by
  refine ⟨h.ok, h.left, ?_, by have := h.len; simp; omega⟩
  have hi : i < ns.length := (List.getElem?_eq_some_iff.1 hn).1
  have e : ns[i] = n := (List.getElem?_eq_some_iff.1 hn).2
  rw [h.ids, List.drop_eq_getElem_cons hi, e, List.append_assoc]
  rfl
/-- it went -/
theorem PassSt.go {ns nx : List Nat} {i n : Nat} (h : PassSt dep nxt L K rs ns nx i) (hn : ns[i]? = some n) (hu : ups K n = 0) : PassSt dep nxt L (dropL K n) rs ns nx (i + 1) := by
  have hi : i < ns.length := (List.getElem?_eq_some_iff.1 hn).1
  have e : ns[i] = n := (List.getElem?_eq_some_iff.1 hn).2
  have hids := h.ids
  rw [List.drop_eq_getElem_cons hi, e] at hids
  have hri := deadK_rise (L := L) (rs := rs) h.ok.rise
  have hmem : n ∈ deadK L K rs := by rw [hids]; simp
  refine ⟨h.ok.drop hu, ⟨fun m hm => h.left.sub m (List.mem_filter.1 hm).1, fun m hm ha => ?_⟩, ?_, by have := h.len; omega⟩
  · refine List.mem_filter.2 ⟨h.left.all m hm ha, ?_⟩
    have : m.id ≠ n := fun q => by rw [q, (mem_deadK.1 hmem).2] at ha; cases ha
    simpa using this
  · rw [hids] at hri
    rw [deadK_drop, hids, List.filter_append, List.filter_cons]
    obtain ⟨-, h2, h3⟩ := List.pairwise_append.1 hri
    have h4 := (List.pairwise_cons.1 h2).1
    rw [List.filter_eq_self.2 (fun k hk => by have := h3 k hk n (by simp); simp; omega), List.filter_eq_self.2 (fun k hk => by have := h4 k hk; simp; omega)]
    simp
/-- the last one of a round goes -/
theorem PassSt.last (hO : Ok dep nxt L) {ns nx : List Nat} {i n : Nat} (h : PassSt dep nxt L K rs ns nx i) (hn : ns[i]? = some n) (hl : i + 1 = ns.length) : ups K n = 0 := by
  have hi : i < ns.length := (List.getElem?_eq_some_iff.1 hn).1
  have e : ns[i] = n := (List.getElem?_eq_some_iff.1 hn).2
  have hids := h.ids
  rw [List.drop_eq_getElem_cons hi, e, List.drop_eq_nil_of_le (by omega)] at hids
  have hri := deadK_rise (L := L) (rs := rs) h.ok.rise
  have hmem : n ∈ deadK L K rs := by rw [hids]; simp
  obtain ⟨⟨u, hu, hun⟩, hd⟩ := mem_deadK.1 hmem
  subst hun
  refine h.left.top hO hu hd fun m hm ha => ?_
  have hk : m.id ∈ deadK L K rs := mem_deadK.2 ⟨⟨m, hm, rfl⟩, ha⟩
  rw [hids] at hk hri
  obtain ⟨-, -, h3⟩ := List.pairwise_append.1 hri
  rcases List.mem_append.1 hk with q | q
  · exact Nat.le_of_lt (h3 _ q u.id (by simp))
  · have : m.id = u.id := by simpa using q
    omega
theorem split_len (l : List Nat) (p : Nat → Bool) : l.length = (l.filter p).length + (l.filter fun n => !p n).length := by
  induction l with
  | nil => rfl
  | cons a l ih =>
    cases hp : p a <;> simp [List.filter_cons, hp] <;> omega
/-- how many are left -/
theorem Left.count (hO : Ok dep nxt L) (h : Left L K rs) (hr : K.Pairwise (fun a b => a.id < b.id)) : K.length + (deadL L rs).length = L.length + (deadK L K rs).length := by
  have hA : (K.map Md.id).filter (aliveL L rs) = (L.map Md.id).filter (aliveL L rs) := by
    have hk : ((K.map Md.id).filter (aliveL L rs)).Pairwise (· < ·) := (List.pairwise_map.2 hr).filter _
    have hl : ((L.map Md.id).filter (aliveL L rs)).Pairwise (· < ·) := (List.pairwise_map.2 hO.rise).filter _
    refine List.Perm.eq_of_pairwise (le := fun a b => a ≤ b) (fun a b _ _ h1 h2 => Nat.le_antisymm h1 h2) (hk.imp fun h => Nat.le_of_lt h) (hl.imp fun h => Nat.le_of_lt h)
      ((List.perm_ext_iff_of_nodup (hk.imp fun h => Nat.ne_of_lt h) (hl.imp fun h => Nat.ne_of_lt h)).2 fun n => ?_)
    rw [List.mem_filter, List.mem_filter, List.mem_map, List.mem_map]
    constructor
    · rintro ⟨⟨m, hm, rfl⟩, ha⟩
      exact ⟨⟨m, h.sub m hm, rfl⟩, ha⟩
    · rintro ⟨⟨m, hm, rfl⟩, ha⟩
      exact ⟨⟨m, h.all m hm ha, rfl⟩, ha⟩
  have e1 := split_len (K.map Md.id) (aliveL L rs)
  have e2 := split_len (L.map Md.id) (aliveL L rs)
  rw [List.length_map] at e1 e2
  rw [hA] at e1
  have e3 : (deadL L rs).length = ((L.map Md.id).filter fun n => !aliveL L rs n).length := rfl
  have e4 : (deadK L K rs).length = ((K.map Md.id).filter fun n => !aliveL L rs n).length := rfl
  omega
end
end Go.Proofs.Ytejimgjonhaocaa

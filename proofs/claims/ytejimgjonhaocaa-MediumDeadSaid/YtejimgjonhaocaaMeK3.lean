/-
  slices.Sorted of an iterator of numbers.
-/
import Derived.Test.YtejimgjonhaocaaMeK2
namespace Go.Proofs.Ytejimgjonhaocaa
open Go.RowKit Go.Maps Go.Lib Go.Shelf Go.Sort

/-- a sorted array of numbers is a sorted list of the same ones -/
theorem sorted_list (ss : List Nat) (d' : Array Int) (hp : PermIn 0 ss.length (ss.map Int.ofNat).toArray d') (hs : SortedIn ltInt 0 ss.length d') :
    ∃ ts : List Nat, d' = (ts.map Int.ofNat).toArray ∧ ts.Perm ss ∧ ts.Pairwise (· ≤ ·) := by
  have hsz : d'.size = ss.length := by rw [hp.1]; simp
  have hperm : d'.toList.Perm (ss.map Int.ofNat) := by
    have h := hp.2.2
    rw [show d'.extract 0 ss.length = d' by rw [← hsz]; simp] at h
    have e : ((ss.map Int.ofNat).toArray.extract 0 ss.length).toList = ss.map Int.ofNat := by simp; exact List.take_of_length_le (by simp)
    rwa [e] at h
  have hmem : ∀ x ∈ d'.toList, Int.ofNat x.toNat = x := fun x hx => by
    obtain ⟨k, _, rfl⟩ := List.mem_map.1 (hperm.mem_iff.1 hx)
    rfl
  have hl : (d'.toList.map Int.toNat).map Int.ofNat = d'.toList := by
    rw [List.map_map]
    conv => rhs; rw [← List.map_id d'.toList]
    exact List.map_congr_left fun x hx => hmem x hx
  refine ⟨d'.toList.map Int.toNat, by rw [hl], ?_, ?_⟩
  · have h := hperm.map Int.toNat
    rw [List.map_map] at h
    have e : ss.map (Int.toNat ∘ Int.ofNat) = ss := by
      conv => rhs; rw [← List.map_id ss]
      exact List.map_congr_left fun x _ => rfl
    rwa [e] at h
  · rw [List.pairwise_map, List.pairwise_iff_getElem]
    intro i j hi hj hij
    have hi' : i < d'.size := by simpa using hi
    have hj' : j < d'.size := by simpa using hj
    have h := hs i j (Nat.zero_le _) hij (by omega)
    rw [getElem!_pos d' j hj', getElem!_pos d' i hi'] at h
    have h2 : ¬ d'[j] < d'[i] := by simpa [ltInt] using h
    simp only [Array.getElem_toList]
    omega
section
variable {w w' : World} {base g cap : Nat} {ss ts : List Nat} {cur : Array Value}
theorem holds_row (hb : w.heap[g]? = some (.cells cur 34 (0, 0))) (ht : cur.toList.take ss.length = ss.map kV) : Holds eU w g 0 (ss.map Int.ofNat).toArray := by
  intro j hj
  have hj' : j < ss.length := by simpa using hj
  refine ⟨?_, by simp [World.frozen?, hb]⟩
  have h1 : (cur.toList.take ss.length)[j]? = (ss.map kV)[j]? := by rw [ht]
  rw [List.getElem?_take_of_lt hj'] at h1
  simp only [World.cell?, hb, Nat.zero_add]
  simp only [Option.isSome_none, Bool.false_eq_true, if_false]
  rw [← Array.getElem?_toList, h1]
  simp [hj', kV, eU]
/-- behind the sort the slice's block holds the sorted numbers, and no other block is turned -/
theorem sorted_world (hlen : ts.length = ss.length) (hbase : base ≤ g) (hb : w.heap[g]? = some (.cells cur 34 (0, 0))) (h1 : ss.length ≤ cap) (h2 : cap ≤ maxLen) (h3 : cur.size = cap * 1) (S : SW eU w g 0 (ts.map Int.ofNat).toArray w') :
    w'.ownsRow base 34 1 (.slice (some ⟨g, 0, none⟩) ss.length cap) ts.length (ts.map kV) ∧ w.grownBy w' (some g) := by
  obtain ⟨n, os, rfl⟩ := S
  unfold sortWorld
  have hg : g < w.heap.size := (Array.getElem?_eq_some_iff.1 hb).1
  have hh : (grow (putRow eU (Sort.ahead w n) g 0 (ts.map Int.ofNat).toArray) os).heap[g]? = some (.cells (putCells eU 0 (ts.map Int.ofNat).toArray cur) 34 (0, 0)) := by
    rw [heap_grow_old _ _ (by simpa using hg)]
    simp [putRow, mapBlock, Sort.ahead, Array.getElem?_modify, hb, onCells]
  have ht : (putCells eU 0 (ts.map Int.ofNat).toArray cur).toList.take ts.length = ts.map kV := by
    apply List.ext_getElem?
    intro j
    by_cases hj : j < ts.length
    · rw [List.getElem?_take_of_lt hj, Array.getElem?_toList]
      simp [putCells, hj, show j < cur.size by omega, kV, eU]
    · rw [List.getElem?_take_eq_none (by omega), List.getElem?_eq_none (by simp; omega)]
  refine ⟨⟨by simp, .inr ⟨g, cap, _, by rw [hlen], hbase, hh, by omega, h2, by simp [putCells, h3], by rw [Nat.mul_one]; exact ht⟩⟩, rfl, rfl, rfl, by simp, fun k hk hne => ?_⟩
  rw [heap_grow_old _ _ (by simpa using hk)]
  have : g ≠ k := fun e => hne (by rw [e])
  simp [putRow, mapBlock, Sort.ahead, Array.getElem?_modify, this]
end
section
set_option maxRecDepth 100000
set_option maxHeartbeats 4000000
theorem sorted_any (m g : Nat) (lb : Array Value) (eg : ∀ args w, (callFunc g args).run Try.prog w = .ok (.enter g args) w) (S : List Nat → Prop) (N : Nat) (hN : N ≤ 255) (w : World) (hseq : SeqGives Fence.wide m Try.prog g lb kV S N w) :
    CallsIn Fence.wide (m + 1 + 1 + 1) Try.prog 41 #[.func (.func g) #[] lb] w fun e w' => ∃ (v : Value) (ts : List Nat), e = .returned v ∧ ((∃ ss, S ss ∧ ts.Perm ss) ∧ ts.Pairwise (· ≤ ·)) ∧ w'.ownsRow w.heap.size 34 1 v ts.length (ts.map kV) ∧ Below w.heap.size w w' := by
  have HC := Lib.hid (collect_any m g lb eg _ N (by omega) w hseq.bounded)
  have HNn := Lib.hid fun w => sort_none w
  clear hseq
  refine callsIn_of_wp Try.func41 rfl trivial ?_ rfl
  simp only [Try.ntmps41, List.size_toArray, List.length_cons, List.length_nil, Nat.reduceAdd, Nat.reduceSub, Array.replicate_succ, Array.replicate_zero, List.push_toArray, List.append_toArray, List.nil_append, List.cons_append]
  gi_wp2
  refine ⟨trivial, HC.out.mono ?_⟩
  rintro e W ⟨v, ss, rfl, ⟨hS, hle⟩, hr, hb⟩
  rcases hr.2 with ⟨rfl, h0⟩ | ⟨gb, cap, cur, rfl, hbase, hgb, r1, r2, r3, r4⟩
  · have hss : ss = [] := List.eq_nil_of_length_eq_zero h0
    subst hss
    have H2 : Hid (S [] ∧ Below w.heap.size w W) := ⟨hS, hb⟩
    clear hS hb hr HC
    gi_wp2
    refine ⟨trivial, (callsIn_wide.2 (HNn.out _)).mono ?_⟩
    rintro e w2 ⟨rfl, rfl⟩
    gi_wp2
    go_ret
    exact ⟨_, [], rfl, ⟨⟨[], H2.out.1, List.Perm.refl _⟩, List.Pairwise.nil⟩, World.ownsRow_nil _ _ _ _, H2.out.2⟩
  · have hR : Row1 eU W gb 0 (ss.map Int.ofNat).toArray := ⟨eU_one, holds_row hgb (by simpa using r4), (Array.getElem?_eq_some_iff.1 hgb).1⟩
    have HS := Lib.hid (sort_any (cap := cap) (z := ss.length) hR (by simp) (by omega) (ss.map Int.ofNat).toArray ⟨SW.start hR.hH, by simp⟩)
    have H2 : Hid (S ss ∧ Below w.heap.size w W ∧ w.heap.size ≤ gb ∧ W.heap[gb]? = some (.cells cur 34 (0, 0)) ∧ ss.length ≤ cap ∧ cap ≤ maxLen ∧ cur.size = cap * 1) := ⟨hS, hb, hbase, hgb, r1, r2, r3⟩
    clear hS hb hbase hgb r1 r2 r3 r4 hr hR HC
    gi_wp2
    refine ⟨trivial, (callsIn_wide.2 HS.out).mono ?_⟩
    rintro e w2 ⟨rfl, d', ⟨hp, hs⟩, hsr⟩
    obtain ⟨ts, rfl, hts, hpw⟩ := sorted_list ss d' hp hs
    have hlen : ts.length = ss.length := hts.length_eq
    obtain ⟨k1, k2⟩ := sorted_world hlen H2.out.2.2.1 H2.out.2.2.2.1 H2.out.2.2.2.2.1 H2.out.2.2.2.2.2.1 H2.out.2.2.2.2.2.2 hsr.sw
    have H3 : Hid (((∃ ss, S ss ∧ ts.Perm ss) ∧ ts.Pairwise (· ≤ ·)) ∧ w2.ownsRow w.heap.size 34 1 (.slice (some ⟨gb, 0, none⟩) ss.length cap) ts.length (ts.map kV) ∧ Below w.heap.size w w2) :=
      ⟨⟨⟨ss, H2.out.1, hts⟩, hpw⟩, k1, H2.out.2.1.grown k2 H2.out.2.1.size (fun k e => by cases e; exact H2.out.2.2.1)⟩
    clear hp hs hsr hts hpw k1 k2 hlen
    gi_wp2
    go_ret
    exact ⟨_, ts, rfl, H3.out⟩
end
end Go.Proofs.Ytejimgjonhaocaa

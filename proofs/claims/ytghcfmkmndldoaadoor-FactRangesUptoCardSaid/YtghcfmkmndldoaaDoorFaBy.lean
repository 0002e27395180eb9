/-
  The program's writer of byte strings, for longer ones.
-/
import Derived.Test.YtghcfmkmndldoaaDoorKPageSpec
import Derived.Laws.IdiomStrings
namespace Go.Proofs.YtghcfmkmndldoaaDoor
open Go.RowKit

theorem all_leG {ls : List (List UInt8)} (hl : ls.flatten.length ≤ 4194304) : ∀ l ∈ ls, l.length ≤ 4194304 := by
  intro l hm
  have : l.length ≤ ls.flatten.length := by
    rw [List.length_flatten]
    exact le_sum _ _ (List.mem_map_of_mem hm)
  omega
/-- '[]byte(s)': the row that it lays -/
theorem str_conv (s : ByteArray) : ∃ (cap : World → Nat) (ob : World → Obj), (∀ W, (convert 9 25 (.string s)).run Tryd.prog W = .ok (.slice (some ⟨W.heap.size, 0, none⟩) s.size (cap W)) (W.drew.alloc (ob W))) ∧
    ∀ W, RB (W.drew.alloc (ob W)) (W.heap.size + 1) (some ⟨W.heap.size, 0, none⟩) s.data.toList ∧ s.size ≤ cap W := by
  refine ⟨fun W => grownCap W s.size 0 5, fun W => .cells (bytesRow s (grownCap W s.size 0 5)) 5 ((bytesRow s (grownCap W s.size 0 5)).size, (bytesRow s (grownCap W s.size 0 5)).size + 1), fun W => run_bytes_of_string (P := Tryd.prog) W 9 25 5 s Tryd.underlying9 Tryd.underlying25 Tryd.underlying5, fun W => ⟨fun k x hx => ?_, grownCap_ge W s.size 0 5⟩⟩
  refine ⟨_, rfl, Nat.lt_succ_self _, ?_⟩
  rw [add_flat, Nat.zero_add]
  have hk : k < s.data.size := by
    have := (List.getElem?_eq_some_iff.1 hx).1
    simpa using this
  have hh : (W.drew.alloc (.cells (bytesRow s (grownCap W s.size 0 5)) 5 ((bytesRow s (grownCap W s.size 0 5)).size, (bytesRow s (grownCap W s.size 0 5)).size + 1))).heap[W.heap.size]? = some (.cells (bytesRow s (grownCap W s.size 0 5)) 5 ((bytesRow s (grownCap W s.size 0 5)).size, (bytesRow s (grownCap W s.size 0 5)).size + 1)) := heap_alloc_new W.drew _
  have hx2 : s.data[k]? = some x := by rw [← Array.getElem?_toList]; exact hx
  simp only [World.cell?]
  rw [hh]
  show (bytesRow s _)[k]? = _
  unfold bytesRow
  rw [Array.getElem?_append_left (by simpa using hk)]
  simp [hx2, bv]
set_option maxRecDepth 200000 in
set_option maxHeartbeats 4000000 in
theorem bytesG_any (A : Option Addr) (c : Nat) (l : List UInt8) (L : Option Addr) (cl : Nat) (ls : List (List UInt8)) (w : World) (hr : RB w w.heap.size A l) (hrr : RBB w w.heap.size L ls) (hl : l.length ≤ 4194304) (hll : ls.flatten.length ≤ 4194304) (hls : ls.length ≤ 1099511627776) :
    Calls Tryd.prog 101 #[.slice A l.length c, .slice L ls.length cl] w fun e w' => ∃ b', e = .returned b' ∧ Own w' w.heap.size b' (l ++ (numBytes ls.flatten.length ++ ls.flatten)) ∧ Below w.heap.size w w' := by
  have Hall := Lib.hid (all_leG hll)
  have Htl := Lib.hid (fun k => Nat.le_trans (take_flat_le ls k) hll)
  have Hr := Lib.hid hr
  have Hrr := Lib.hid hrr
  have hls' : (ls.length : Int) ≤ 1099511627776 := by omega
  have hlen' : (l.length : Int) ≤ 4194304 := by omega
  have Hll := Lib.hid hll
  clear hr hrr hll
  go_enter Tryd.func101, Tryd.ntmps101
  go_wp2_with fail
  go_loop [5, 13] (fun d i => ∃ k : Nat, k ≤ ls.length ∧ i = .int .i64 (k : Int) ∧ ∃ m : Nat, d = .int .i64 (m : Int) ∧ m ≤ 4194304 ∧ Hid (m = (ls.take k).flatten.length)) (fun _ i => (ls.length - intOf i).toNat)
  case atStart => exact ⟨0, by omega, rfl, 0, rfl, by omega, rfl⟩
  case round =>
    obtain ⟨k, hk, rfl, m, rfl, hm, hmeq⟩ := hrel
    by_cases hkl : k < ls.length
    · obtain ⟨ad, A', c', rfl, hb, hc, hrb, hcap⟩ := Hrr.out k _ (List.getElem?_eq_getElem hkl)
      have h3 : ls[k].length ≤ 4194304 := Hall.out _ (List.getElem_mem hkl)
      have h3' : (ls[k].length : Int) ≤ 4194304 := by omega
      have Hnext : Hid (m + ls[k].length = (ls.take (k + 1)).flatten.length) := by show _ = _; rw [flatten_take ls k hkl, List.length_append, ← hmeq.out]
      have Hle : Hid (m + ls[k].length ≤ 4194304) := by show _ ≤ _; rw [Hnext.out]; exact Htl.out (k + 1)
      clear hrb
      go_wp2_with fail
      exact ⟨⟨k + 1, by omega, by go_num, m + ls[k].length, by go_num, Hle.out, Hnext.out⟩, by simp [intOf]; omega⟩
    · obtain rfl : k = ls.length := by omega
      have Hm : Hid (m = ls.flatten.length) := by have := hmeq.out; rw [List.take_length] at this; exact this
      obtain ⟨cs, hown, hmk⟩ := make_cap (l.length + 10 + m) (by omega)
      have hmk' : ∀ u : World, (Instr.makeSlice 25 (.int .i64 0) (.int .i64 ((l.length : Int) + 10 + (m : Int)))).run Tryd.prog u = .ok (.slice (some ⟨u.heap.size, 0, none⟩) 0 (l.length + 10 + m)) (u.alloc (.cells cs 5)) := hmk
      have Hown := Lib.hid hown
      have Hlen : Hid (([] : List UInt8).length + l.length ≤ 140737488355327) := by show _ ≤ _; simp; omega
      have hwm : IntKind.u64.wrap (m : Int) = (m : Int) := by rw [IntKind.wrap_u64]; omega
      have hm' : (m : Int) ≤ 4194304 := by omega
      clear hown hmk hmeq
      go_wp2_with (at_builtin; refine app_bytes rfl (.tmp 28) (.tmp 29) rfl w.heap.size _ [] rfl (Hown.out w _ (Nat.le_refl _)) _ A l.length c l rfl rfl (Hr.out.alloc (Nat.le_refl _) _) Hlen.out (by simp) ?_; intro v1 w1 hown1 hbel1 _)
      clear hmk'
      have Hown1 : Hid (Own w1 w.heap.size v1 l) := hown1
      have Hbel1 := Lib.hid (((Below.refl w.heap.size w).alloc (Nat.le_refl _) (.cells cs 5)).trans hbel1)
      clear hown1 hbel1
      refine (add_any w.heap.size v1 _ m _ (by rw [two64_eq]; omega) Hown1.out Hbel1.out.size (by omega)).mono ?_
      rintro e w2 ⟨b2, rfl, hown2, hbel2⟩
      have Hown2 := Lib.hid hown2
      have Hbel2 := Lib.hid (Hbel1.out.trans hbel2)
      clear hown2 hbel2
      go_wp2_with fail
      go_loopw [8, 36] (fun b i wr => ∃ k : Nat, k ≤ ls.length ∧ i = .int .i64 (k : Int) ∧ Hid (Own wr w.heap.size b (l ++ (numBytes m ++ (ls.take k).flatten))) ∧ Hid (Below w.heap.size w wr)) (fun _ i _ => (ls.length - intOf i).toNat)
      case atStart => exact ⟨0, by omega, rfl, by show Own _ _ _ _; simp only [List.take_zero, List.flatten_nil, List.append_nil]; exact Hown2.out, Hbel2.out⟩
      case round =>
        obtain ⟨k, hk2, rfl, hown, hbel⟩ := hrel
        by_cases hkl2 : k < ls.length
        · obtain ⟨ad, A', c', rfl, hb, hc, hrb, hcap⟩ := (Hrr.out.below hbel.out) k _ (List.getElem?_eq_getElem hkl2)
          have h3 : ls[k].length ≤ 4194304 := Hall.out _ (List.getElem_mem hkl2)
          have Hrb := Lib.hid hrb
          have Hlen2 : Hid ((l ++ (numBytes m ++ (ls.take k).flatten)).length + ls[k].length ≤ 140737488355327) := by
            show _ ≤ _
            have h4 := numBytes_ten (v := m) (by rw [two64_eq]; omega)
            have h5 := Htl.out k
            rw [List.length_append, List.length_append]
            omega
          have Hsz : Hid (w.heap.size ≤ wr.heap.size) := hbel.out.size
          have Hft := Lib.hid (flatten_take ls k hkl2)
          clear hrb
          go_wp2_with (at_builtin; refine app_bytes rfl (.tmp 40) (.tmp 41) rfl w.heap.size _ _ rfl hown.out _ A' ls[k].length c' ls[k] rfl rfl Hrb.out Hlen2.out Hsz.out ?_; intro v3 w3 hown3 hbel3 _)
          exact ⟨⟨k + 1, by omega, by go_num, by
            show Own _ _ _ _
            rw [Hft.out]
            simp only [List.append_assoc] at hown3 ⊢
            exact hown3, hbel.out.trans hbel3⟩, by simp [intOf]; omega⟩
        · obtain rfl : k = ls.length := by omega
          go_wp2_with fail
          go_ret
          refine ⟨_, rfl, ?_, hbel.out⟩
          have h := hown.out
          rw [List.take_length, Hm.out] at h
          exact h
end Go.Proofs.YtghcfmkmndldoaaDoor

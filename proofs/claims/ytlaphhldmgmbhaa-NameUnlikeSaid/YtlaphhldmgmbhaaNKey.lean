/-
  Keys written and read, by both programs.
-/
import Derived.Test.YtlaphhldmgmbhaaNMark
import Derived.Test.YtlaphhldmgmbhaaNLib
import Derived.Test.YtlaphhldmgmbhaaNKeyMath
namespace Go.Proofs.Ytlaphhldmgmbhaa
open Go.RowKit

/-- what the byte of a key tells the walk -/
theorem key_facts (n k : Nat) (hk : k < 8) : ∃ y : Nat, (n : Int) / 2 ^ (56 - 8 * k) % 256 = (y : Int) ∧ Hid ([Value.int .u8 (y : Int)] = bvs [UInt8.ofNat (n / 256 ^ (7 - k))]) ∧ (y : Int) < 256 := by
  refine ⟨(n / 256 ^ (7 - k)) % 256, ?_, ?_, by omega⟩
  · have e : (256 : Nat) ^ (7 - k) = 2 ^ (56 - 8 * k) := by rw [show 56 - 8 * k = 8 * (7 - k) by omega, Nat.pow_mul]
    rw [e]
    simp
  · show _ = _
    simp [bvs, bv]

set_option maxRecDepth 20000 in
set_option maxHeartbeats 400000 in
theorem key_any (s : ByteArray) (n : Nat) (w : World) (hs : s.size ≤ 1099511627776) :
    Calls Try.prog 21 #[.string s, .int .u64 (n : Int)] w fun e w' => e = .returned (.string ⟨(keyL s.data.toList n).toArray⟩) ∧ Below w.heap.size w w' := by
  obtain ⟨cs, hown, hmk⟩ := make_cap (s.size + 9) (by omega)
  have hmk' : ∀ u : World, (Instr.makeSlice 32 (.int .i64 0) (.int .i64 ((s.size : Int) + 9))).run Try.prog u = .ok (.slice (some ⟨u.heap.size, 0, none⟩) 0 (s.size + 9)) (u.alloc (.cells cs 5)) := hmk
  have Hown := Lib.hid hown
  have Hsl : Hid (s.data.toList.length = s.size) := by show _ = _; rfl
  have Hl0 : Hid (([] : List UInt8).length + s.size ≤ 140737488355327) := by show _ ≤ _; simp; omega
  have hs' : (s.size : Int) ≤ 1099511627776 := by omega
  clear hown hmk
  go_enter Try.func21, Try.ntmps21
  go_upto_region 3 with (at_builtin; refine app_text rfl (.tmp 11) (.tmp 12) rfl w.heap.size _ [] rfl (Hown.out w _ (Nat.le_refl _)) s rfl Hl0.out (by simp) ?_; intro v1 w1 hown1 hbel1)
  have Hown1 : Hid (Own w1 w.heap.size v1 s.data.toList) := hown1
  have Hbel1 : Hid (Below w.heap.size w w1) := ((Below.refl _ _).alloc (Nat.le_refl _) _).trans hbel1
  have Hsz1 := Lib.hid Hbel1.out.size
  have Hl1 : Hid (s.data.toList.length + 1 ≤ 140737488355327) := by show _ ≤ _; rw [Hsl.out]; omega
  have Hz : Hid ([Value.int .u8 0] = bvs [(0 : UInt8)]) := rfl
  clear hown1 hbel1
  go_wp2_with (at_builtin; refine app_bytes rfl (.tmp 14) (.tmp 15) rfl w.heap.size _ _ rfl (Own.alloc Hown1.out _) _ _ 1 1 [(0 : UInt8)] rfl rfl (RB.new _ _ _ _ Hz.out) Hl1.out (Nat.le_trans Hsz1.out (by simp)) ?_; intro v2 w2 hown2 hbel2 _)
  have Hown2 : Hid (Own w2 w.heap.size v2 (s.data.toList ++ [0] ++ beK n 0)) := by show Own _ _ _ _; rw [show beK n 0 = [] from rfl, List.append_nil]; exact hown2
  have Hbel2 : Hid (Below w.heap.size w w2) := (Hbel1.out.alloc Hsz1.out _).trans hbel2
  clear hown2 hbel2
  go_loopw [5, 6] (fun d i wr => ∃ k : Nat, k ≤ 8 ∧ i = .int .i64 (56 - 8 * (k : Int)) ∧ Hid (Own wr w.heap.size d (s.data.toList ++ [0] ++ beK n k)) ∧ Hid (Below w.heap.size w wr)) (fun _ i _ => (intOf i + 8).toNat)
  case atStart => exact ⟨0, by omega, rfl, Hown2, Hbel2⟩
  case round =>
    obtain ⟨k, hk, rfl, hown, hbel⟩ := hrel
    have Hs : Hid (w.heap.size ≤ wr.heap.size) := hbel.out.size
    by_cases hk8 : k < 8
    · obtain ⟨y, hy, Hy, hy2⟩ := key_facts n k hk8
      have hsh : (56 - 8 * (k : Int)).toNat = 56 - 8 * k := by omega
      have h0 : (0 : Int) ≤ 56 - 8 * (k : Int) := by omega
      have Hr : Hid ((s.data.toList ++ [0] ++ beK n k).length + 1 ≤ 140737488355327) := by show _ ≤ _; rw [List.length_append, List.length_append, beK_length, Hsl.out]; simp; omega
      go_wp2_with (at_builtin; refine app_bytes rfl (.tmp 21) (.tmp 26) rfl w.heap.size _ _ rfl (Own.alloc hown.out _) _ _ 1 1 [UInt8.ofNat (n / 256 ^ (7 - k))] rfl rfl (RB.new _ _ _ _ Hy.out) Hr.out (Nat.le_trans Hs.out (by simp)) ?_; intro v3 w3 hown3 hbel3 _)
      exact ⟨⟨k + 1, by omega, by congr 1; omega, by
          show Own _ _ _ _
          rw [beK_succ, ← List.append_assoc]
          exact hown3, (hbel.out.alloc Hs.out _).trans hbel3⟩, by simp [intOf]; omega⟩
    · obtain rfl : k = 8 := by omega
      have Hk : Hid (keyL s.data.toList n = s.data.toList ++ [0] ++ beK n 8) := rfl
      generalize s.data.toList ++ [0] ++ beK n 8 = body at hown Hk
      obtain ⟨A, c, rfl, _, hrb, _⟩ := hown.out.rb
      have hcv := text_run wr _ A _ c hrb
      clear hrb
      go_wp2_with fail
      go_ret
      exact ⟨by rw [Hk.out]; rfl, hbel.out⟩

set_option maxRecDepth 20000 in
set_option maxHeartbeats 400000 in
theorem refKey_any (s : ByteArray) (n : Nat) (w : World) (hs : s.size ≤ 1099511627776) :
    Calls Try.prog 22 #[.string s, .int .u64 (n : Int)] w fun e w' => e = .returned (.string ⟨(keyL s.data.toList n).toArray⟩) ∧ Below w.heap.size w w' := by
  have Hsl : Hid (s.data.toList.length = s.size) := by show _ = _; rfl
  have hcv := fun (W : World) => run_bytes_of_string (P := Try.prog) W 9 32 5 s Try.underlying9 Try.underlying32 Try.underlying5
  have hs' : (s.size : Int) ≤ 1099511627776 := by omega
  have hcap := grownCap_ge w s.size 0 5
  have hcap2 : grownCap w s.size 0 5 ≤ maxLen := grownCap_le_maxLen w s.size 0 _ (by simp only [maxLen]; omega)
  have hcv' := hcv w
  generalize grownCap w s.size 0 5 = cap at hcap hcap2 hcv'
  have Hl1 : Hid (s.data.toList.length + 1 ≤ 140737488355327) := by show _ ≤ _; rw [Hsl.out]; omega
  have Hz : Hid ([Value.int .u8 0] = bvs [(0 : UInt8)]) := rfl
  have Hmade : Hid (∀ o, OwnM ((w.alloc (.cells (bytesRow s cap) 5 ((bytesRow s cap).size, (bytesRow s cap).size + 1))).alloc o).drew w.heap.size (.slice (some ⟨w.heap.size, 0, none⟩) s.size cap) s.data.toList) := fun o => ((OwnM.made w w.heap.size s cap (Nat.le_refl _) hcap hcap2).alloc o).drew
  have Hbmade : Hid (Below w.heap.size w ((w.alloc (.cells (bytesRow s cap) 5 ((bytesRow s cap).size, (bytesRow s cap).size + 1))).alloc (.cells #[.int .u8 0] 5)).drew) := (((Below.refl _ w).alloc (Nat.le_refl _) _).alloc (by simp) _).drew
  have Hrb1 : Hid (RB ((w.alloc (.cells (bytesRow s cap) 5 ((bytesRow s cap).size, (bytesRow s cap).size + 1))).alloc (.cells #[.int .u8 0] 5)).drew (w.heap.size + 2) (some ⟨w.heap.size + 1, 0, none⟩) [(0 : UInt8)]) := by
    have := RB.new (w.alloc (.cells (bytesRow s cap) 5 ((bytesRow s cap).size, (bytesRow s cap).size + 1))) #[.int .u8 0] 5 [(0 : UInt8)] Hz.out
    have e : (w.alloc (.cells (bytesRow s cap) 5 ((bytesRow s cap).size, (bytesRow s cap).size + 1))).heap.size = w.heap.size + 1 := by simp
    rw [e] at this
    exact this
  clear hcap hcap2 hcv
  go_enter Try.func22, Try.ntmps22
  go_upto_region 2 with (at_builtin; go_must (refine app_marked rfl (.tmp 8) (.tmp 9) rfl w.heap.size _ _ rfl (Hmade.out _) _ _ 1 1 [(0 : UInt8)] rfl rfl Hrb1.out (by simp) Hl1.out (by simp; omega) ?_); intro v2 w2 hown2 hbel2)
  have Hown2 : Hid (OwnM w2 w.heap.size v2 (s.data.toList ++ [0] ++ beK n 0)) := by show OwnM _ _ _ _; rw [show beK n 0 = [] from rfl, List.append_nil]; exact hown2
  have Hbel2 : Hid (Below w.heap.size w w2) := Hbmade.out.trans hbel2
  clear hown2 hbel2
  go_wp2_with fail
  go_loopw [5, 6] (fun d i wr => ∃ k : Nat, k ≤ 8 ∧ i = .int .i64 (7 - (k : Int)) ∧ Hid (OwnM wr w.heap.size d (s.data.toList ++ [0] ++ beK n k)) ∧ Hid (Below w.heap.size w wr)) (fun _ i _ => (intOf i + 1).toNat)
  case atStart => exact ⟨0, by omega, rfl, Hown2, Hbel2⟩
  case round =>
    obtain ⟨k, hk, rfl, hown, hbel⟩ := hrel
    have Hs : Hid (w.heap.size ≤ wr.heap.size) := hbel.out.size
    by_cases hk8 : k < 8
    · obtain ⟨y, hy, Hy, hy2⟩ := key_facts n k hk8
      have hsh : (8 * (7 - (k : Int))).toNat = 56 - 8 * k := by omega
      have h0 : (0 : Int) ≤ 7 - (k : Int) := by omega
      have h1 : (0 : Int) ≤ 8 * (7 - (k : Int)) := by omega
      have hw : IntKind.u64.wrap (8 * (7 - (k : Int))) = 8 * (7 - (k : Int)) := by rw [IntKind.wrap_u64]; omega
      have Hr : Hid ((s.data.toList ++ [0] ++ beK n k).length + 1 ≤ 140737488355327) := by show _ ≤ _; rw [List.length_append, List.length_append, beK_length, Hsl.out]; simp; omega
      go_wp2_with (at_builtin; go_must (refine app_marked rfl (.tmp 15) (.tmp 22) rfl w.heap.size _ _ rfl (OwnM.alloc hown.out _) _ _ 1 1 [UInt8.ofNat (n / 256 ^ (7 - k))] rfl rfl (RB.new _ _ _ _ Hy.out) (by simp) Hr.out (Nat.le_trans Hs.out (by simp)) ?_); intro v3 w3 hown3 hbel3)
      exact ⟨⟨k + 1, by omega, by congr 1; omega, by
          show OwnM _ _ _ _
          rw [beK_succ, ← List.append_assoc]
          exact hown3, (hbel.out.alloc Hs.out _).trans hbel3⟩, by simp [intOf]; omega⟩
    · obtain rfl : k = 8 := by omega
      have Hk : Hid (keyL s.data.toList n = s.data.toList ++ [0] ++ beK n 8) := rfl
      generalize s.data.toList ++ [0] ++ beK n 8 = body at hown Hk
      obtain ⟨A, c, rfl, _, hrb⟩ := hown.out.rb
      have hcv := text_run wr _ A _ c hrb
      clear hrb
      go_wp2_with fail
      go_ret
      exact ⟨by rw [Hk.out]; rfl, hbel.out⟩

set_option maxRecDepth 20000 in
set_option maxHeartbeats 400000 in
theorem refRdKey_any (s : ByteArray) (w : World) (hs : s.size ≤ 1099511627776) :
    Calls Try.prog 20 #[.string s] w fun e w' => e = .returned (.tuple #[.string ⟨(rdKey s.data.toList).1.toArray⟩, .int .u64 ((rdKey s.data.toList).2.1 : Int), .int .i64 ((rdKey s.data.toList).2.2 : Int)]) ∧ w = w' := by
  have Hsl : Hid (s.data.toList.length = s.size) := by show _ = _; rfl
  have hs' : (s.size : Int) ≤ 1099511627776 := by omega
  have Hspec : Hid (rdKey s.data.toList = _) := (by rw [rdKey] : rdKey s.data.toList = _)
  generalize rdKey s.data.toList = out at Hspec ⊢
  by_cases h9 : s.size < 9
  · have hout : out = ([], 0, 24) := by rw [Hspec.out, if_pos (by rw [Hsl.out]; exact h9)]
    subst hout
    clear Hspec
    have h9' : (s.size : Int) - 9 < 0 := by omega
    go_enter Try.func20, Try.ntmps20
    go_wp2_with fail
    go_ret3
    exact ⟨rfl, rfl⟩
  · obtain ⟨m, hm⟩ : ∃ m : Nat, s.size = m + 9 := ⟨s.size - 9, by omega⟩
    have hsz : (s.size : Int) - 9 = (m : Int) := by omega
    have hix := fun W : World => index_at s m (by omega) W
    have hge : (0 : Int) ≤ (m : Int) := by omega
    have hml : (m : Int) ≤ 1099511627776 := by omega
    have Hm := Lib.hid hm
    have hs0 : out = if (s.data.toList.getD m 0).toNat ≠ 0 then ([], 0, 24) else (s.data.toList.take m, beNat (s.data.toList.drop (m + 1)), 0) := by
      rw [Hspec.out, if_neg (by rw [Hsl.out]; exact h9), Hsl.out, hm]
      rfl
    have Hs0 := Lib.hid hs0
    generalize (s.data.toList.getD m 0).toNat = x at hix Hs0
    have hwz : wrap64 ((s.size : Int) - 9) = (m : Int) := by rw [hsz]; unfold wrap64; omega
    clear hs0 Hspec hm h9
    by_cases hx : x = 0
    · have hb0 : ((x : Int) != 0) = false := by simp [hx]
      have hout : out = (s.data.toList.take m, beNat (s.data.toList.drop (m + 1)), 0) := by rw [Hs0.out, if_neg (fun h => h hx)]
      have Hout := Lib.hid hout
      clear hout hx Hs0
      go_enter Try.func20, Try.ntmps20
      go_wp2_with fail
      have hdl : Hid ((s.data.toList.drop (m + 1)).length = 8) := by show _ = _; rw [List.length_drop, Hsl.out, Hm.out]; omega
      have Hsz9 : Hid ((s.size : Int) = (m : Int) + 9) := by show _ = _; omega
      go_loop [6, 7] (fun d i => ∃ k : Nat, k ≤ 8 ∧ i = .int .i64 ((m : Int) + 1 + (k : Int)) ∧ ∃ n : Nat, d = .int .u64 (n : Int) ∧ Hid (n = beNat ((s.data.toList.drop (m + 1)).take k))) (fun _ i => (m + 9 - intOf i).toNat)
      case atStart => exact ⟨0, by omega, by go_num, 0, rfl, rfl⟩
      case round =>
        obtain ⟨k, hk, rfl, n, rfl, heq⟩ := hrel
        by_cases hk8 : k < 8
        · have hidx := fun W : World => index_at s (m + 1 + k) (by have := Hm.out; omega) W
          obtain ⟨q, hq, hor⟩ := be_facts (s.data.toList.drop (m + 1)) k (by rw [hdl.out]; exact hk8) hk8
          have Hq := Lib.hid hq
          have e : ((s.data.toList.drop (m + 1))[k]'(by rw [hdl.out]; exact hk8)) = s.data.toList.getD (m + 1 + k) 0 := by
            rw [List.getElem_drop, List.getD_eq_getElem?_getD, List.getElem?_eq_getElem]
            rfl
          rw [← heq.out, e] at hor
          generalize (s.data.toList.getD (m + 1 + k) 0) = x8 at hor hidx
          have hx := x8.toNat_lt
          have hx' : (x8.toNat : Int) < 256 := by omega
          generalize x8.toNat = x at hor hidx hx'
          have hlt : (m : Int) + 1 + (k : Int) < (s.size : Int) := by have := Hsz9.out; omega
          have hca : ((m + 1 + k : Nat) : Int) = (m : Int) + 1 + (k : Int) := by omega
          rw [hca] at hidx
          clear e hx hq hca
          go_wp2_with fail
          exact ⟨⟨k + 1, by omega, by congr 1, q, rfl, Hq.out⟩, by simp [intOf]; omega⟩
        · obtain rfl : k = 8 := by omega
          have hge9 : (s.size : Int) ≤ (m : Int) + 1 + 8 := by have := Hsz9.out; omega
          have hms : (m : Int) ≤ (s.size : Int) := by omega
          have Hfin : Hid (n = beNat (s.data.toList.drop (m + 1))) := by
            have := heq.out
            rw [List.take_of_length_le (Nat.le_of_eq hdl.out)] at this
            exact this
          go_wp2_with fail
          go_ret3
          exact ⟨by rw [Hout.out, Hfin.out, Lib.extract_eq]; rfl, rfl⟩
    · have hb0 : ((x : Int) != 0) = true := by simp [hx]
      have hout : out = ([], 0, 24) := by rw [Hs0.out, if_pos hx]
      subst hout
      clear hx Hs0
      go_enter Try.func20, Try.ntmps20
      go_wp2_with fail
      go_ret3
      exact ⟨rfl, rfl⟩
set_option maxRecDepth 20000 in
set_option maxHeartbeats 400000 in
theorem rdKey_any (s : ByteArray) (w : World) (hs : s.size ≤ 1099511627776) :
    Calls Try.prog 19 #[.string s] w fun e w' => e = .returned (.tuple #[.string ⟨(rdKey s.data.toList).1.toArray⟩, .int .u64 ((rdKey s.data.toList).2.1 : Int), .int .i64 ((rdKey s.data.toList).2.2 : Int)]) ∧ Below w.heap.size w w' := by
  have Hsl : Hid (s.data.toList.length = s.size) := by show _ = _; rfl
  have hs' : (s.size : Int) ≤ 1099511627776 := by omega
  have Hspec : Hid (rdKey s.data.toList = _) := (by rw [rdKey] : rdKey s.data.toList = _)
  generalize rdKey s.data.toList = out at Hspec ⊢
  by_cases h9 : s.size < 9
  · have hout : out = ([], 0, 24) := by rw [Hspec.out, if_pos (by rw [Hsl.out]; exact h9)]
    subst hout
    clear Hspec
    have h9' : (s.size : Int) - 9 < 0 := by omega
    go_enter Try.func19, Try.ntmps19
    go_wp2_with fail
    go_ret3
    exact ⟨rfl, Below.refl _ _⟩
  · obtain ⟨m, hm⟩ : ∃ m : Nat, s.size = m + 9 := ⟨s.size - 9, by omega⟩
    have hsz : (s.size : Int) - 9 = (m : Int) := by omega
    have hix := fun W : World => index_at s m (by omega) W
    have hge : (0 : Int) ≤ (m : Int) := by omega
    have hml : (m : Int) ≤ 1099511627776 := by omega
    have Hm := Lib.hid hm
    have hs0 : out = if (s.data.toList.getD m 0).toNat ≠ 0 then ([], 0, 24) else (s.data.toList.take m, beNat (s.data.toList.drop (m + 1)), 0) := by
      rw [Hspec.out, if_neg (by rw [Hsl.out]; exact h9), Hsl.out, hm]
      rfl
    have Hs0 := Lib.hid hs0
    generalize (s.data.toList.getD m 0).toNat = x at hix Hs0
    have hwz : wrap64 ((s.size : Int) - 9) = (m : Int) := by rw [hsz]; unfold wrap64; omega
    clear hs0 Hspec hm h9
    by_cases hx : x = 0
    · have hb0 : ((x : Int) != 0) = false := by simp [hx]
      have hout : out = (s.data.toList.take m, beNat (s.data.toList.drop (m + 1)), 0) := by rw [Hs0.out, if_neg (fun h => h hx)]
      have Hout := Lib.hid hout
      clear hout hx Hs0
      go_enter Try.func19, Try.ntmps19
      go_wp2_with fail
      have hdl : Hid ((s.data.toList.drop (m + 1)).length = 8) := by show _ = _; rw [List.length_drop, Hsl.out, Hm.out]; omega
      have Hsz9 : Hid ((s.size : Int) = (m : Int) + 9) := by show _ = _; omega
      go_loop [6, 7] (fun d i => ∃ k : Nat, k ≤ 8 ∧ i = .int .i64 ((m : Int) + 1 + (k : Int)) ∧ ∃ n : Nat, d = .int .u64 (n : Int) ∧ Hid (n = beNat ((s.data.toList.drop (m + 1)).take k))) (fun _ i => (m + 9 - intOf i).toNat)
      case atStart => exact ⟨0, by omega, by go_num, 0, rfl, rfl⟩
      case round =>
        obtain ⟨k, hk, rfl, n, rfl, heq⟩ := hrel
        by_cases hk8 : k < 8
        · have hidx := fun W : World => index_at s (m + 1 + k) (by have := Hm.out; omega) W
          obtain ⟨q, hq, hor⟩ := be_facts (s.data.toList.drop (m + 1)) k (by rw [hdl.out]; exact hk8) hk8
          have Hq := Lib.hid hq
          have e : ((s.data.toList.drop (m + 1))[k]'(by rw [hdl.out]; exact hk8)) = s.data.toList.getD (m + 1 + k) 0 := by
            rw [List.getElem_drop, List.getD_eq_getElem?_getD, List.getElem?_eq_getElem]
            rfl
          rw [← heq.out, e] at hor
          generalize (s.data.toList.getD (m + 1 + k) 0) = x8 at hor hidx
          have hx := x8.toNat_lt
          have hx' : (x8.toNat : Int) < 256 := by omega
          generalize x8.toNat = x at hor hidx hx'
          have hlt : (m : Int) + 1 + (k : Int) < (s.size : Int) := by have := Hsz9.out; omega
          have hca : ((m + 1 + k : Nat) : Int) = (m : Int) + 1 + (k : Int) := by omega
          rw [hca] at hidx
          clear e hx hq hca
          go_wp2_with fail
          exact ⟨⟨k + 1, by omega, by congr 1, q, rfl, Hq.out⟩, by simp [intOf]; omega⟩
        · obtain rfl : k = 8 := by omega
          have hge9 : (s.size : Int) ≤ (m : Int) + 1 + 8 := by have := Hsz9.out; omega
          have hms : (m : Int) ≤ (s.size : Int) := by omega
          have Hfin : Hid (n = beNat (s.data.toList.drop (m + 1))) := by
            have := heq.out
            rw [List.take_of_length_le (Nat.le_of_eq hdl.out)] at this
            exact this
          have Hcl := Lib.hid (clone_s (s.extract 0 m) w (by rw [Lib.size_eq, Lib.extract_data]; simp; omega))
          go_wp2_with fail
          refine Hcl.out.mono ?_
          rintro e w1 ⟨rfl, hb⟩
          have Hb := Lib.hid hb
          clear hb
          go_wp2_with fail
          go_ret3
          exact ⟨by rw [Hout.out, Hfin.out, Lib.extract_eq]; rfl, Hb.out⟩
    · have hb0 : ((x : Int) != 0) = true := by simp [hx]
      have hout : out = ([], 0, 24) := by rw [Hs0.out, if_pos hx]
      subst hout
      clear hx Hs0
      go_enter Try.func19, Try.ntmps19
      go_wp2_with fail
      go_ret3
      exact ⟨rfl, Below.refl _ _⟩
end Go.Proofs.Ytlaphhldmgmbhaa

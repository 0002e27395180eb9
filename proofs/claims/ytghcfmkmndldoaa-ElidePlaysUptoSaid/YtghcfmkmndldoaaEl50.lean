/-
  count over the closures of Over. (Written by wip/tools/genel50.py, which is genel11.py turned.)
-/
import Derived.Test.YtghcfmkmndldoaaKEl9
namespace Go.Proofs.Ytghcfmkmndldoaa
open Go.RowKit Go.Sort Go.Lib

section
set_option maxRecDepth 100000
set_option maxHeartbeats 4000000
theorem overA_call (k : ByteArray) (kb : Nat) (x : Ec) (w : World) (hc : Cells w kb 9 [.string k]) : Calls Try.prog 48 #[eV x, .pointer (some ⟨kb, 0, none⟩)] w fun r w' => r = .returned (.bool (leB x.2.1 k)) ∧ Below w.heap.size w w' := by
  have hb : Below w.heap.size w (w.alloc (.cells #[.string x.1, .string x.2.1, .int .u64 (x.2.2 : Int)] 32)) := (Below.refl _ _).alloc (Nat.le_refl _) _
  have Hb := Lib.hid hb
  have hc1 := hc.alloc (.cells #[.string x.1, .string x.2.1, .int .u64 (x.2.2 : Int)] 32)
  have c0 := hc1.cell (i := 0) rfl
  have hlf := leB_form x.2.1 k
  unfold eV
  clear hb hc hc1
  go_enter Try.func48, Try.ntmps48
  go_wp2_with fail
  go_ret
  exact ⟨by first | rfl | rw [hlf] | simp [hlf], Hb.out⟩
theorem overA_one (k : ByteArray) (kb sob sb g n c i : Nat) (A : Option Addr) (l : List Ec) (x : Ec) (w : World) (hn : n = l.length) (hso : w.cell? ⟨sob, 0, none⟩ = some (.func (.func 48) #[] #[.pointer (some ⟨kb, 0, none⟩)])) (hs : w.cell? ⟨sb, 0, none⟩ = some (.pointer (some ⟨g, 0, none⟩))) (hg : w.cell? ⟨g, 0, none⟩ = some (.slice A n c)) (hr : RE w w.heap.size A l) (hx : l[i]? = some x) (hc : Cells w kb 9 [.string k]) :
    Calls Try.prog 56 #[.int .i64 (i : Int), .pointer (some ⟨sob, 0, none⟩), .pointer (some ⟨sb, 0, none⟩)] w fun r w' => r = .returned (.bool (!(leB x.2.1 k))) ∧ Below w.heap.size w w' := by
  obtain ⟨b, o, rfl, _, x0, x1, x2⟩ := hr i x hx
  have hlt : (i : Int) < (n : Int) := by have := (List.getElem?_eq_some_iff.1 hx).1; omega
  have HC : Hid (∀ W, (W = w ∨ W = w.drew) → Calls Try.prog 48 #[eV x, .pointer (some ⟨kb, 0, none⟩)] W fun r w' => r = .returned (.bool (leB x.2.1 k)) ∧ Below w.heap.size w w') := fun W hW => by
    rcases hW with rfl | rfl
    · exact overA_call k kb x _ hc
    · refine (overA_call k kb x w.drew (hc.move rfl)).mono ?_
      rintro r w' ⟨rfl, hb⟩
      exact ⟨rfl, ((Below.refl _ _).drew).trans hb⟩
  have d0 : w.drew.cell? ⟨b, o + i * 3, none⟩ = some (.string x.1) := x0
  have d1 : w.drew.cell? ⟨b, o + i * 3 + 1, none⟩ = some (.string x.2.1) := x1
  have d2 : w.drew.cell? ⟨b, o + i * 3 + 2, none⟩ = some (.int .u64 (x.2.2 : Int)) := x2
  have d3 : w.drew.cell? ⟨sob, 0, none⟩ = some (.func (.func 48) #[] #[.pointer (some ⟨kb, 0, none⟩)]) := hso
  have d4 : w.drew.cell? ⟨sb, 0, none⟩ = some (.pointer (some ⟨g, 0, none⟩)) := hs
  have d5 : w.drew.cell? ⟨g, 0, none⟩ = some (.slice (some ⟨b, o, none⟩) n c) := hg
  generalize (leB x.2.1 k) = q at *
  unfold eV at HC
  clear hr hx hn hc
  go_enter Try.func56, Try.ntmps56
  go_upto_region 1 with fail
  go_region_with (go_at_call 48; refine (HC.out _ (by first | exact .inl (by with_reducible rfl) | exact .inr (by with_reducible rfl))).mono ?_; rintro e w3 ⟨rfl, h3⟩; have H3 := Lib.hid h3; clear h3)
  all_goals
    go_wp2_with fail
    go_ret
    exact ⟨rfl, H3.out⟩
theorem overA_cnt (k : ByteArray) (kb g base : Nat) (l : List Ec) (w : World) (h : SetAt w base g l) (hm : MonoE l (fun x => leB x.2.1 k)) (hc : Cells w kb 9 [.string k]) :
    Calls Try.prog 34 #[.pointer (some ⟨g, 0, none⟩), .func (.func 48) #[] #[.pointer (some ⟨kb, 0, none⟩)]] w fun r w' => ∃ c : Nat, r = .returned (.int .i64 (c : Int)) ∧ CntP l (fun x => leB x.2.1 k) c ∧ Below w.heap.size w w' := by
  obtain ⟨v, hg, ho⟩ := h.cell
  obtain ⟨A, c, rfl, hlc, _, hr, _⟩ := ho.rd
  obtain ⟨n, hn⟩ : ∃ n, n = l.length := ⟨_, rfl⟩
  obtain ⟨W2, hW2⟩ : ∃ W2, W2 = (w.alloc (.cells #[.pointer (some ⟨g, 0, none⟩)] 33)).alloc (.cells #[.func (.func 48) #[] #[.pointer (some ⟨kb, 0, none⟩)]] 67) := ⟨_, rfl⟩
  have hb2 : Below w.heap.size w W2 := by rw [hW2]; exact ((Below.refl _ _).alloc (Nat.le_refl _) _).alloc (by simp) _
  have hs : Cells W2 w.heap.size 33 [.pointer (some ⟨g, 0, none⟩)] := by rw [hW2]; exact (Cells.new w _ _).alloc _
  have hso : Cells W2 (w.heap.size + 1) 67 [.func (.func 48) #[] #[.pointer (some ⟨kb, 0, none⟩)]] := by
    rw [hW2]
    have := Cells.new (w.alloc (.cells #[.pointer (some ⟨g, 0, none⟩)] 33)) #[.func (.func 48) #[] #[.pointer (some ⟨kb, 0, none⟩)]] 67
    rwa [show (w.alloc (.cells #[.pointer (some ⟨g, 0, none⟩)] 33)).heap.size = w.heap.size + 1 by simp] at this
  have hl9 := h.len
  have HS : Hid (Calls Try.prog 55 #[.int .i64 (n : Int), .func (.func 56) #[] #[.pointer (some ⟨w.heap.size + 1, 0, none⟩), .pointer (some ⟨w.heap.size, 0, none⟩)]] W2 fun r w' => ∃ c : Nat, r = .returned (.int .i64 (c : Int)) ∧ SrchP n (atB l (fun x => leB x.2.1 k)) c ∧ Below W2.heap.size W2 w') := by
    refine search_any (w.heap.size + 1) w.heap.size n _ W2 (by omega) (fun W i hW hi => ?_) (by rw [hn]; exact mono_at hm)
    obtain ⟨x, hx⟩ : ∃ x, l[i]? = some x := ⟨_, List.getElem?_eq_getElem (by omega)⟩
    have hbW : Below w.heap.size w W := hb2.trans (hW.mono hb2.size)
    have := overA_one k kb (w.heap.size + 1) w.heap.size g n c i A l x W hn ((hso.move (hW.block _ hso.lt)).cell (i := 0) rfl) ((hs.move (hW.block _ hs.lt)).cell (i := 0) rfl) (by rw [hn]; exact (hg.move (hbW.block _ hg.lt)).cell (i := 0) rfl) (hr.now hbW) hx (hc.move (hbW.block _ hc.lt))
    have e : atB l (fun x => leB x.2.1 k) i = !(leB x.2.1 k) := by unfold atB; rw [hx]
    rw [e]
    exact this
  have g0 : W2.cell? ⟨g, 0, none⟩ = some (.slice A n c) := by rw [hn]; exact (hg.move (hb2.block _ hg.lt)).cell (i := 0) rfl
  have s0 := hs.cell (i := 0) rfl
  have H2 : Hid (Below w.heap.size w W2 ∧ (∀ cc, SrchP n (atB l (fun x => leB x.2.1 k)) cc → CntP l (fun x => leB x.2.1 k) cc)) := ⟨hb2, fun cc q => cnt_of (by rw [← hn]; exact q)⟩
  generalize (atB l (fun x => leB x.2.1 k)) = pp at HS H2
  clear h hm hc hg ho hlc hr hn hb2 hs hso hl9
  rw [hW2] at g0 s0 HS
  go_enter Try.func34, Try.ntmps34
  go_wp2_with fail
  rw [← hW2] at HS ⊢
  refine HS.out.mono ?_
  rintro r w3 ⟨cc, rfl, hp, hb3⟩
  have H3 : Hid (CntP l (fun x => leB x.2.1 k) cc ∧ Below w.heap.size w w3) := ⟨H2.out.2 cc hp, H2.out.1.trans (hb3.mono H2.out.1.size)⟩
  clear hp hb3 HS hW2 g0 s0
  go_wp2_with fail
  go_ret
  exact ⟨cc, rfl, H3.out⟩
theorem overB_call (k : ByteArray) (kb : Nat) (x : Ec) (w : World) (hc : Cells w kb 9 [.string k]) : Calls Try.prog 49 #[eV x, .pointer (some ⟨kb, 0, none⟩)] w fun r w' => r = .returned (.bool (Op.bytesLess x.1.toList k.toList)) ∧ Below w.heap.size w w' := by
  have hb : Below w.heap.size w (w.alloc (.cells #[.string x.1, .string x.2.1, .int .u64 (x.2.2 : Int)] 32)) := (Below.refl _ _).alloc (Nat.le_refl _) _
  have Hb := Lib.hid hb
  have hc1 := hc.alloc (.cells #[.string x.1, .string x.2.1, .int .u64 (x.2.2 : Int)] 32)
  have c0 := hc1.cell (i := 0) rfl
  have hlf := True.intro
  unfold eV
  clear hb hc hc1
  go_enter Try.func49, Try.ntmps49
  go_wp2_with fail
  go_ret
  exact ⟨by first | rfl | rw [hlf] | simp [hlf], Hb.out⟩
theorem overB_one (k : ByteArray) (kb sob sb g n c i : Nat) (A : Option Addr) (l : List Ec) (x : Ec) (w : World) (hn : n = l.length) (hso : w.cell? ⟨sob, 0, none⟩ = some (.func (.func 49) #[] #[.pointer (some ⟨kb, 0, none⟩)])) (hs : w.cell? ⟨sb, 0, none⟩ = some (.pointer (some ⟨g, 0, none⟩))) (hg : w.cell? ⟨g, 0, none⟩ = some (.slice A n c)) (hr : RE w w.heap.size A l) (hx : l[i]? = some x) (hc : Cells w kb 9 [.string k]) :
    Calls Try.prog 56 #[.int .i64 (i : Int), .pointer (some ⟨sob, 0, none⟩), .pointer (some ⟨sb, 0, none⟩)] w fun r w' => r = .returned (.bool (!(Op.bytesLess x.1.toList k.toList))) ∧ Below w.heap.size w w' := by
  obtain ⟨b, o, rfl, _, x0, x1, x2⟩ := hr i x hx
  have hlt : (i : Int) < (n : Int) := by have := (List.getElem?_eq_some_iff.1 hx).1; omega
  have HC : Hid (∀ W, (W = w ∨ W = w.drew) → Calls Try.prog 49 #[eV x, .pointer (some ⟨kb, 0, none⟩)] W fun r w' => r = .returned (.bool (Op.bytesLess x.1.toList k.toList)) ∧ Below w.heap.size w w') := fun W hW => by
    rcases hW with rfl | rfl
    · exact overB_call k kb x _ hc
    · refine (overB_call k kb x w.drew (hc.move rfl)).mono ?_
      rintro r w' ⟨rfl, hb⟩
      exact ⟨rfl, ((Below.refl _ _).drew).trans hb⟩
  have d0 : w.drew.cell? ⟨b, o + i * 3, none⟩ = some (.string x.1) := x0
  have d1 : w.drew.cell? ⟨b, o + i * 3 + 1, none⟩ = some (.string x.2.1) := x1
  have d2 : w.drew.cell? ⟨b, o + i * 3 + 2, none⟩ = some (.int .u64 (x.2.2 : Int)) := x2
  have d3 : w.drew.cell? ⟨sob, 0, none⟩ = some (.func (.func 49) #[] #[.pointer (some ⟨kb, 0, none⟩)]) := hso
  have d4 : w.drew.cell? ⟨sb, 0, none⟩ = some (.pointer (some ⟨g, 0, none⟩)) := hs
  have d5 : w.drew.cell? ⟨g, 0, none⟩ = some (.slice (some ⟨b, o, none⟩) n c) := hg
  generalize (Op.bytesLess x.1.toList k.toList) = q at *
  unfold eV at HC
  clear hr hx hn hc
  go_enter Try.func56, Try.ntmps56
  go_upto_region 1 with fail
  go_region_with (go_at_call 49; refine (HC.out _ (by first | exact .inl (by with_reducible rfl) | exact .inr (by with_reducible rfl))).mono ?_; rintro e w3 ⟨rfl, h3⟩; have H3 := Lib.hid h3; clear h3)
  all_goals
    go_wp2_with fail
    go_ret
    exact ⟨rfl, H3.out⟩
theorem overB_cnt (k : ByteArray) (kb g base : Nat) (l : List Ec) (w : World) (h : SetAt w base g l) (hm : MonoE l (fun x => Op.bytesLess x.1.toList k.toList)) (hc : Cells w kb 9 [.string k]) :
    Calls Try.prog 34 #[.pointer (some ⟨g, 0, none⟩), .func (.func 49) #[] #[.pointer (some ⟨kb, 0, none⟩)]] w fun r w' => ∃ c : Nat, r = .returned (.int .i64 (c : Int)) ∧ CntP l (fun x => Op.bytesLess x.1.toList k.toList) c ∧ Below w.heap.size w w' := by
  obtain ⟨v, hg, ho⟩ := h.cell
  obtain ⟨A, c, rfl, hlc, _, hr, _⟩ := ho.rd
  obtain ⟨n, hn⟩ : ∃ n, n = l.length := ⟨_, rfl⟩
  obtain ⟨W2, hW2⟩ : ∃ W2, W2 = (w.alloc (.cells #[.pointer (some ⟨g, 0, none⟩)] 33)).alloc (.cells #[.func (.func 49) #[] #[.pointer (some ⟨kb, 0, none⟩)]] 67) := ⟨_, rfl⟩
  have hb2 : Below w.heap.size w W2 := by rw [hW2]; exact ((Below.refl _ _).alloc (Nat.le_refl _) _).alloc (by simp) _
  have hs : Cells W2 w.heap.size 33 [.pointer (some ⟨g, 0, none⟩)] := by rw [hW2]; exact (Cells.new w _ _).alloc _
  have hso : Cells W2 (w.heap.size + 1) 67 [.func (.func 49) #[] #[.pointer (some ⟨kb, 0, none⟩)]] := by
    rw [hW2]
    have := Cells.new (w.alloc (.cells #[.pointer (some ⟨g, 0, none⟩)] 33)) #[.func (.func 49) #[] #[.pointer (some ⟨kb, 0, none⟩)]] 67
    rwa [show (w.alloc (.cells #[.pointer (some ⟨g, 0, none⟩)] 33)).heap.size = w.heap.size + 1 by simp] at this
  have hl9 := h.len
  have HS : Hid (Calls Try.prog 55 #[.int .i64 (n : Int), .func (.func 56) #[] #[.pointer (some ⟨w.heap.size + 1, 0, none⟩), .pointer (some ⟨w.heap.size, 0, none⟩)]] W2 fun r w' => ∃ c : Nat, r = .returned (.int .i64 (c : Int)) ∧ SrchP n (atB l (fun x => Op.bytesLess x.1.toList k.toList)) c ∧ Below W2.heap.size W2 w') := by
    refine search_any (w.heap.size + 1) w.heap.size n _ W2 (by omega) (fun W i hW hi => ?_) (by rw [hn]; exact mono_at hm)
    obtain ⟨x, hx⟩ : ∃ x, l[i]? = some x := ⟨_, List.getElem?_eq_getElem (by omega)⟩
    have hbW : Below w.heap.size w W := hb2.trans (hW.mono hb2.size)
    have := overB_one k kb (w.heap.size + 1) w.heap.size g n c i A l x W hn ((hso.move (hW.block _ hso.lt)).cell (i := 0) rfl) ((hs.move (hW.block _ hs.lt)).cell (i := 0) rfl) (by rw [hn]; exact (hg.move (hbW.block _ hg.lt)).cell (i := 0) rfl) (hr.now hbW) hx (hc.move (hbW.block _ hc.lt))
    have e : atB l (fun x => Op.bytesLess x.1.toList k.toList) i = !(Op.bytesLess x.1.toList k.toList) := by unfold atB; rw [hx]
    rw [e]
    exact this
  have g0 : W2.cell? ⟨g, 0, none⟩ = some (.slice A n c) := by rw [hn]; exact (hg.move (hb2.block _ hg.lt)).cell (i := 0) rfl
  have s0 := hs.cell (i := 0) rfl
  have H2 : Hid (Below w.heap.size w W2 ∧ (∀ cc, SrchP n (atB l (fun x => Op.bytesLess x.1.toList k.toList)) cc → CntP l (fun x => Op.bytesLess x.1.toList k.toList) cc)) := ⟨hb2, fun cc q => cnt_of (by rw [← hn]; exact q)⟩
  generalize (atB l (fun x => Op.bytesLess x.1.toList k.toList)) = pp at HS H2
  clear h hm hc hg ho hlc hr hn hb2 hs hso hl9
  rw [hW2] at g0 s0 HS
  go_enter Try.func34, Try.ntmps34
  go_wp2_with fail
  rw [← hW2] at HS ⊢
  refine HS.out.mono ?_
  rintro r w3 ⟨cc, rfl, hp, hb3⟩
  have H3 : Hid (CntP l (fun x => Op.bytesLess x.1.toList k.toList) cc ∧ Below w.heap.size w w3) := ⟨H2.out.2 cc hp, H2.out.1.trans (hb3.mono H2.out.1.size)⟩
  clear hp hb3 HS hW2 g0 s0
  go_wp2_with fail
  go_ret
  exact ⟨cc, rfl, H3.out⟩
end
end Go.Proofs.Ytghcfmkmndldoaa

/-
  The second saying's writers: byte strings, records.
-/
import Derived.Test.YtlgeknibdgamgaaDoorLow
import Derived.Test.YtlgeknibdgamgaaDoorNum
import Derived.Test.YtlgeknibdgamgaaDoorRefSum
import Derived.Test.YtlgeknibdgamgaaDoorRecSpec
namespace Go.Proofs.YtlgeknibdgamgaaDoor
open Go.RowKit

set_option maxRecDepth 20000 in
set_option maxHeartbeats 1000000 in
theorem refBytes_any (base : Nat) (b : Value) (l : List UInt8) (A : Option Addr) (c : Nat) (x : List UInt8) (w : World) (hown : Own w base b l) (hbase : base ≤ w.heap.size) (hr : RB w base A x) (hl : l.length ≤ 1048576) (hx : x.length ≤ 1048576) :
    Calls Tryd.prog 27 #[b, .slice A x.length c] w fun e w' => ∃ b', e = .returned b' ∧ Own w' base b' (l ++ (numBytes x.length ++ x)) ∧ Below base w w' := by
  have hv : x.length < two64 := by rw [two64_eq]; omega
  have hwx : IntKind.u64.wrap (x.length : Int) = (x.length : Int) := by rw [IntKind.wrap_u64]; omega
  have hten := numBytes_ten hv
  have Hnum := Lib.hid (refNumber_any base b l x.length w hv hown hbase (by omega))
  have Hr := Lib.hid hr
  have Hlen : Hid ((l ++ numBytes x.length).length + x.length ≤ 140737488355327) := by show _ ≤ _; rw [List.length_append]; omega
  have Hb := Lib.hid hbase
  clear hown hr hv hten hbase
  go_enter Tryd.func27, Tryd.ntmps27
  go_wp2_with fail
  refine Hnum.out.mono ?_
  rintro e w1 ⟨b1, rfl, hown1, hbel1⟩
  have Hsz : Hid (base ≤ w1.heap.size) := Nat.le_trans Hb.out hbel1.size
  have Hr1 := Lib.hid (Hr.out.below hbel1)
  have Hbel1 := Lib.hid hbel1
  have Hown1 := Lib.hid hown1
  clear hbel1 hown1
  go_wp2_with (at_builtin; refine app_bytes rfl (.tmp 9) (.tmp 10) rfl base _ _ rfl Hown1.out _ A x.length c x rfl rfl Hr1.out Hlen.out Hsz.out ?_; intro v2 w2 hown2 hbel2 _)
  go_ret
  exact ⟨_, rfl, by rw [← List.append_assoc]; exact hown2, Hbel1.out.trans hbel2⟩

set_option maxRecDepth 20000 in
set_option maxHeartbeats 1000000 in
theorem refRecord_any (seq : Nat) (A : Option Addr) (c : Nat) (x : List UInt8) (w : World) (hr : RB w w.heap.size A x) (hseq : seq < two64) (hx : x.length ≤ 1048576) :
    Calls Tryd.prog 29 #[.int .u64 (seq : Int), .slice A x.length c] w fun e w' => ∃ v, e = .returned v ∧ Own w' w.heap.size v (recBytes seq x) ∧ Below w.heap.size w w' := by
  have hv : x.length < two64 := by rw [two64_eq]; omega
  have hwx : IntKind.u64.wrap (x.length : Int) = (x.length : Int) := by rw [IntKind.wrap_u64]; omega
  have Hten := Lib.hid (numBytes_ten hv)
  have Hv := Lib.hid hv
  have Hlow := Lib.hid (low_any w.heap.size (.slice none 0 0) [] seq 8 w (by omega) hseq (Own.nil _ _) (Nat.le_refl _) (by simp))
  have Hr := Lib.hid hr
  clear hr hv hseq
  go_enter Tryd.func29, Tryd.ntmps29
  go_wp2_with fail
  refine Hlow.out.mono ?_
  rintro e w1 ⟨b1, rfl, hown1, hbel1⟩
  have Hsz1 := Lib.hid hbel1.size
  have Hr1 := Lib.hid (Hr.out.below hbel1)
  have Hbel1 := Lib.hid hbel1
  have Hown1 : Hid (Own w1 w.heap.size b1 (leBytes 8 seq)) := hown1
  have Hl1 : Hid ((leBytes 8 seq).length + x.length ≤ 140737488355327) := by show _ ≤ _; rw [leBytes_length]; omega
  clear hbel1 hown1
  go_wp2_with (at_builtin; refine app_bytes rfl (.tmp 8) (.tmp 9) rfl w.heap.size _ _ rfl Hown1.out _ A x.length c x rfl rfl Hr1.out Hl1.out Hsz1.out ?_; intro v2 w2 hown2 hbel2 _)
  have Hbel2 := Lib.hid (Hbel1.out.trans hbel2)
  have hown2' : Own w2 w.heap.size v2 (recBody seq x) := hown2
  obtain ⟨A2, c2, rfl, hc2, hr2, hn2⟩ := hown2'.rb
  have Hl2 : Hid ((recBody seq x).length = 8 + x.length) := recBody_length seq x
  have Hown2 := Lib.hid hown2'
  have Hr2 := Lib.hid hr2
  clear hown2 hown2' hbel2 hr2 hc2 hn2
  have Hnum := Lib.hid (refNumber_any w2.heap.size (.slice none 0 0) [] x.length w2 Hv.out (Own.nil _ _) (Nat.le_refl _) (by simp))
  refine Hnum.out.mono ?_
  rintro e w3 ⟨b3, rfl, hown3, hbel3⟩
  have Hown3 : Hid (Own w3 w2.heap.size b3 (numBytes x.length)) := hown3
  have Hbel3 := Lib.hid hbel3
  have hsum := refSum_any A2 c2 (recBody seq x) w3 _ (Hr2.out.below hbel3) (by rw [Hl2.out]; omega)
  have Hlt := Lib.hid (sumOf_lt (recBody seq x))
  have Hfin : Hid (recBytes seq x = (numBytes x.length ++ leBytes 4 (sumOf (recBody seq x))) ++ recBody seq x) := by show _ = _; rw [recBytes, List.append_assoc]
  generalize sumOf (recBody seq x) = sm at hsum Hlt Hfin
  have Hsum := Lib.hid hsum
  clear hown3 hbel3 hsum Hnum
  go_wp2_with fail
  refine Hsum.out.mono ?_
  rintro e w' ⟨rfl, rfl⟩
  have Hfour := Lib.hid (four_any w2.heap.size b3 (numBytes x.length) sm w3 Hlt.out Hown3.out Hbel3.out.size (by have := Hten.out; omega))
  go_wp2_with fail
  refine Hfour.out.mono ?_
  rintro e w4 ⟨b4, rfl, hown4, hbel4⟩
  have Hbel4 := Lib.hid (Hbel3.out.trans hbel4)
  have Hown4 := Lib.hid hown4
  have Hr4 := Lib.hid (Hr2.out.below Hbel4.out)
  have Hl4 : Hid ((numBytes x.length ++ leBytes 4 sm).length + (recBody seq x).length ≤ 140737488355327) := by show _ ≤ _; rw [List.length_append, leBytes_length, Hl2.out]; have := Hten.out; omega
  have Hsz4 := Lib.hid Hbel4.out.size
  clear hown4 hbel4
  go_wp2_with (at_builtin; refine app_bytes rfl (.tmp 18) (.tmp 19) rfl w2.heap.size _ _ rfl Hown4.out _ A2 (recBody seq x).length c2 (recBody seq x) rfl rfl Hr4.out Hl4.out Hsz4.out ?_; intro v5 w5 hown5 hbel5 _)
  go_ret
  exact ⟨_, rfl, by rw [Hfin.out]; exact hown5.wide Hbel2.out.size, Hbel2.out.trans ((Hbel4.out.trans hbel5).mono Hbel2.out.size)⟩
end Go.Proofs.YtlgeknibdgamgaaDoor

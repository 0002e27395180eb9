/-
  The chapter's examples, as the statements ask them first.
-/
import Derived.Test.YtlficcdbnmheeaaDoorKPage
import Derived.Test.YtlficcdbnmheeaaDoorKStep
import Derived.Lib.SlBytesConst
import Derived.Test.YtlficcdbnmheeaaDoorKBase
import Derived.Test.YtlficcdbnmheeaaDoorKPageSpec
import Derived.Test.YtlficcdbnmheeaaDoorRefWrite
import Derived.Test.YtlficcdbnmheeaaDoorKGet
namespace Go.Proofs.YtlficcdbnmheeaaDoor
open Go.RowKit

theorem known_num : readNum [172, 2] = (300, 2, 0) := by decide +kernel
theorem known_sum : sumOf [49, 50, 51, 52, 53, 54, 55, 56, 57] = 3808858755 := by decide +kernel
theorem known_err : pageErr 32 0 0 1 = 0 := by decide +kernel
theorem known_room : roomOf 32 = 13 := by decide +kernel
theorem known_len : (pageOf 32 0 0 1 [97]).length = 32 := by decide +kernel
theorem known_4 : (pageOf 32 0 0 1 [97])[4]? = some 1 := by decide +kernel
theorem known_17 : (pageOf 32 0 0 1 [97])[17]? = some 1 := by decide +kernel
theorem known_19 : (pageOf 32 0 0 1 [97])[19]? = some 97 := by decide +kernel

/-- what stands in the example's page, and the world behind it -/
theorem known_page {w1 : World} {base : Nat} {v : Value} (h : Own w1 base v (pageOf 32 0 0 1 [97])) : ∃ g cap, v = .slice (some ⟨g, 0, none⟩) 32 cap ∧ base ≤ g ∧ g < w1.heap.size ∧
    w1.cell? ⟨g, 4, none⟩ = some (.int .u8 1) ∧ w1.cell? ⟨g, 17, none⟩ = some (.int .u8 1) ∧ w1.cell? ⟨g, 19, none⟩ = some (.int .u8 97) := by
  obtain ⟨g, cap, hv, hb, hlt, _, hc, _⟩ := h.form (by rw [known_len]; omega)
  rw [known_len] at hv
  have at_ : ∀ (i : Nat) (x : UInt8), (pageOf 32 0 0 1 [97])[i]? = some x → w1.cell? ⟨g, i, none⟩ = some (.int .u8 (x.toNat : Int)) := fun i x hx => by
    obtain ⟨hi, he⟩ := List.getElem?_eq_some_iff.1 hx
    rw [hc i hi, he]
  exact ⟨g, cap, hv, hb, hlt, at_ 4 1 known_4, at_ 17 1 known_17, at_ 19 97 known_19⟩

theorem RB.mark (w : World) (cs : Array Value) (t : TypeId) (fr : Nat × Nat) (l : List UInt8) (h : cs.toList = bvs l) : RB (w.alloc (.cells cs t fr)) (w.heap.size + 1) (some ⟨w.heap.size, 0, none⟩) l := fun k x hx => by
  refine ⟨_, rfl, by show w.heap.size < _; omega, ?_⟩
  have e : (⟨w.heap.size, 0, none⟩ : Addr).add k = ⟨w.heap.size, k, none⟩ := by unfold Addr.add; split <;> simp_all
  rw [e, World.cell?_alloc_mark, ← Array.getElem?_toList, h]
  simp [bvs, hx]

end Go.Proofs.YtlficcdbnmheeaaDoor

/-
  FramePages: whatever the size, the heads, the payloads: the call returns true.
-/
namespace Go.Proofs.YtlficcdbnmheeaaDoor
open Go.RowKit

/-- a head in a box of the call's own -/
structure HeadAt (W : World) (b : Nat) (seg row shard sz : Int) : Prop where
  c0 : W.cell? ⟨b, 0, none⟩ = some (.int .u64 seg)
  c1 : W.cell? ⟨b, 1, none⟩ = some (.int .i64 row)
  c2 : W.cell? ⟨b, 2, none⟩ = some (.int .i64 shard)
  c3 : W.cell? ⟨b, 3, none⟩ = some (.int .i64 sz)
theorem HeadAt.below {W W' : World} {b B : Nat} {seg row shard sz : Int} (h : HeadAt W b seg row shard sz) (hb : Below B W W') (hB : b < B) : HeadAt W' b seg row shard sz :=
  ⟨(hb.cell (p := ⟨b, 0, none⟩) hB).trans h.c0, (hb.cell (p := ⟨b, 1, none⟩) hB).trans h.c1, (hb.cell (p := ⟨b, 2, none⟩) hB).trans h.c2, (hb.cell (p := ⟨b, 3, none⟩) hB).trans h.c3⟩
theorem HeadAt.new (w : World) (seg row shard sz : Int) (t : TypeId) : HeadAt (w.alloc (.cells #[.int .u64 seg, .int .i64 row, .int .i64 shard, .int .i64 sz] t)) w.heap.size seg row shard sz :=
  ⟨by simp, by simp, by simp, by simp⟩

theorem pageOf_length (s row shard : Int) (seg : Nat) (x : List UInt8) : (pageOf s row shard seg x).length ≤ 65536 ∧ (pageErr s row shard x.length ≠ 0 → pageOf s row shard seg x = []) := by
  unfold pageOf
  by_cases h : pageErr s row shard x.length = 0
  · rw [if_pos h]
    refine ⟨?_, fun h' => absurd h h'⟩
    obtain ⟨h1, h2, _⟩ := pageErr_none h
    rw [pageBytes_length _ _ _ _ _ (by omega)]
    omega
  · rw [if_neg h]
    exact ⟨by simp, fun _ => rfl⟩
/-- what two pages without an error tell -/
def PagesCore (s : Int) (seg : Nat) (row shard : Int) (seg' : Nat) (row' shard' : Int) (x y : List UInt8) : Prop :=
  ∃ n : Nat, s = (n : Int) ∧ (pageOf s row shard seg x).length = n ∧ (pageOf s row' shard' seg' y).length = n ∧
    (pageOf s row shard seg x = pageOf s row' shard' seg' y ↔ seg = seg' ∧ row = row' ∧ shard = shard' ∧ x = y)
theorem pages_core (s : Int) (seg : Nat) (row shard : Int) (seg' : Nat) (row' shard' : Int) (x y : List UInt8) (hs : seg < two64) (hs' : seg' < two64)
    (h : pageErr s row shard x.length = 0) (h' : pageErr s row' shard' y.length = 0) : PagesCore s seg row shard seg' row' shard' x y := by
  obtain ⟨a1, a2, a3, a4, a5, a6, a7, a8⟩ := pageErr_none h
  obtain ⟨b1, b2, b3, b4, b5, b6, b7, b8⟩ := pageErr_none h'
  refine ⟨s.toNat, by omega, ?_, ?_, ?_⟩
  · unfold pageOf; rw [if_pos h, pageBytes_length _ _ _ _ _ (by omega)]
  · unfold pageOf; rw [if_pos h', pageBytes_length _ _ _ _ _ (by omega)]
  · unfold pageOf
    rw [if_pos h, if_pos h']
    constructor
    · intro e
      obtain ⟨c1, c2, c3, c4⟩ := pageBytes_inj hs (by omega) (by omega) (by omega) hs' (by omega) (by omega) (by omega) e
      exact ⟨c1, by omega, by omega, c4⟩
    · rintro ⟨rfl, rfl, rfl, rfl⟩
      rfl
/-- two heads in boxes of the call's own, behind a world -/
structure Heads (w W : World) (seg row shard sz seg' row' shard' sz' : Int) : Prop where
  g : HeadAt W w.heap.size seg row shard sz
  h : HeadAt W (w.heap.size + 1) seg' row' shard' sz'
  bel : Below w.heap.size w W
  size : w.heap.size + 2 ≤ W.heap.size
theorem Heads.below {w W W' : World} {seg row shard sz seg' row' shard' sz' : Int} (h : Heads w W seg row shard sz seg' row' shard' sz') (hb : Below W.heap.size W W') : Heads w W' seg row shard sz seg' row' shard' sz' :=
  ⟨h.g.below hb (by have := h.size; omega), h.h.below hb (by have := h.size; omega), h.bel.trans (hb.mono (by have := h.size; omega)), Nat.le_trans h.size hb.size⟩
theorem Heads.new (w : World) (seg row shard sz seg' row' shard' sz' : Int) (t : TypeId) :
    Heads w ((w.alloc (.cells #[.int .u64 seg, .int .i64 row, .int .i64 shard, .int .i64 sz] t)).alloc (.cells #[.int .u64 seg', .int .i64 row', .int .i64 shard', .int .i64 sz'] t)) seg row shard sz seg' row' shard' sz' := by
  refine ⟨(HeadAt.new w seg row shard sz t).below ((Below.refl _ _).alloc (Nat.le_refl _) _) (by simp), ?_, ((Below.refl _ _).alloc (Nat.le_refl _) _).alloc (by simp) _, by simp⟩
  have := HeadAt.new (w.alloc (.cells #[.int .u64 seg, .int .i64 row, .int .i64 shard, .int .i64 sz] t)) seg' row' shard' sz' t
  rw [World.size_alloc] at this
  exact this

end Go.Proofs.YtlficcdbnmheeaaDoor

/-
  The second saying's writer of pages.
-/
namespace Go.Proofs.YtlficcdbnmheeaaDoor
open Go.RowKit

set_option maxRecDepth 200000 in
set_option maxHeartbeats 1000000 in
theorem refPage_bad1 (s row shard : Int) (seg sz : Int) (A : Option Addr) (n c : Nat) (w : World) (h : roomOf s = 0 ∨ row < 0 ∨ 1073741824 < row ∨ shard < 0 ∨ 255 < shard) :
    Calls Tryd.prog 47 #[.int .i64 s, .agg #[.int .u64 seg, .int .i64 row, .int .i64 shard, .int .i64 sz], .slice A n c] w
      fun e w' => e = .returned (.tuple #[.slice none 0 0, .int .i64 1]) ∧ Below w.heap.size w w' := by
  have hr : roomOf s = 0 ∨ ¬ roomOf s = 0 := by omega
  generalize hrm : roomOf s = rm at h hr
  have Hrm := Lib.hid hrm
  clear hrm
  rcases hr with h0 | h0
  · have hb0 : (rm == 0) = true := by simp [h0]
    clear h h0
    go_enter Tryd.func47, Tryd.ntmps47
    go_wp2_with (go_at_call 43; refine (refRoom_any _ _).mono ?_; rw [Hrm.out]; rintro e w' ⟨rfl, rfl⟩)
    go_ret2
    exact ⟨rfl, (Below.refl _ _).alloc (Nat.le_refl _) _⟩
  · have hb0 : (rm == 0) = false := by simp [h0]
    have h1 : row < 0 ∨ (0 ≤ row ∧ (1073741824 < row ∨ (row ≤ 1073741824 ∧ (shard < 0 ∨ (0 ≤ shard ∧ 255 < shard))))) := by omega
    clear h h0
    rcases h1 with h1 | ⟨h1, h1 | ⟨h2, h1 | ⟨h3, h1⟩⟩⟩
    all_goals
      go_enter Tryd.func47, Tryd.ntmps47
      go_wp2_with (go_at_call 43; refine (refRoom_any _ _).mono ?_; rw [Hrm.out]; rintro e w' ⟨rfl, rfl⟩)
      go_ret2
      exact ⟨rfl, (Below.refl _ _).alloc (Nat.le_refl _) _⟩

set_option maxRecDepth 20000 in
set_option maxHeartbeats 1000000 in
theorem refPage_bad3 (s row shard : Int) (seg sz : Int) (A : Option Addr) (n c : Nat) (w : World) (h : ¬ (roomOf s = 0 ∨ row < 0 ∨ 1073741824 < row ∨ shard < 0 ∨ 255 < shard)) (hl : roomOf s < (n : Int)) :
    Calls Tryd.prog 47 #[.int .i64 s, .agg #[.int .u64 seg, .int .i64 row, .int .i64 shard, .int .i64 sz], .slice A n c] w
      fun e w' => e = .returned (.tuple #[.slice none 0 0, .int .i64 3]) ∧ Below w.heap.size w w' := by
  obtain ⟨h0, h1, h2, h3, h4⟩ : ¬ roomOf s = 0 ∧ 0 ≤ row ∧ row ≤ 1073741824 ∧ 0 ≤ shard ∧ shard ≤ 255 := by omega
  generalize hrm : roomOf s = rm at h h0 hl
  have Hrm := Lib.hid hrm
  have hb0 : (rm == 0) = false := by simp [h0]
  clear hrm h h0
  go_enter Tryd.func47, Tryd.ntmps47
  go_wp2_with fail
  refine (refRoom_any _ _).mono ?_
  rw [Hrm.out]
  rintro e w' ⟨rfl, rfl⟩
  go_wp2_with fail
  refine (refRoom_any _ _).mono ?_
  rw [Hrm.out]
  rintro e w' ⟨rfl, rfl⟩
  go_wp2_with fail
  go_ret2
  exact ⟨rfl, (Below.refl _ _).alloc (Nat.le_refl _) _⟩

set_option maxRecDepth 200000 in
set_option maxHeartbeats 4000000 in
theorem refPage_ok (n seg row shard : Nat) (sz : Int) (A : Option Addr) (c : Nat) (x : List UInt8) (w : World) (B : Nat) (hr : RB w B A x) (hB : B ≤ w.heap.size) (hn1 : 32 ≤ n) (hn2 : n ≤ 65536) (hx : x.length + 19 ≤ n) (hxr : (x.length : Int) ≤ roomOf (n : Int))
    (hseg : seg < two64) (hrow : row ≤ 1073741824) (hsh : shard ≤ 255) :
    Calls Tryd.prog 47 #[.int .i64 (n : Int), .agg #[.int .u64 (seg : Int), .int .i64 (row : Int), .int .i64 (shard : Int), .int .i64 sz], .slice A x.length c] w
      fun e w' => ∃ v, e = .returned (.tuple #[v, .int .i64 0]) ∧ Own w' w.heap.size v (pageBytes n seg row shard x) ∧ Below w.heap.size w w' := by
  have hr0 : ¬ roomOf (n : Int) = 0 := by
    unfold roomOf
    rw [if_neg (by omega)]
    split <;> omega
  generalize hrm : roomOf (n : Int) = rm at hr0 hxr
  have Hrm := Lib.hid hrm
  have hb0 : (rm == 0) = false := by simp [hr0]
  have Hr := Lib.hid hr
  have Hseg := Lib.hid hseg
  have HB := Lib.hid hB
  have hw1 : IntKind.u64.wrap (row : Int) = (row : Int) := by rw [IntKind.wrap_u64]; omega
  have hw2 : IntKind.u64.wrap (x.length : Int) = (x.length : Int) := by rw [IntKind.wrap_u64]; omega
  have Hrow2 : Hid (row < two64) := by show _ < _; rw [two64_eq]; omega
  have Hxl2 : Hid (x.length < two64) := by show _ < _; rw [two64_eq]; omega
  have q1 : (0 : Int) ≤ (row : Int) := by omega
  have q2 : (row : Int) ≤ 1073741824 := by omega
  have q3 : (0 : Int) ≤ (shard : Int) := by omega
  have q4 : (shard : Int) ≤ 255 := by omega
  clear hrm hr0 hr hseg hB
  go_enter Tryd.func47, Tryd.ntmps47
  go_wp2_with fail
  refine (refRoom_any _ _).mono ?_
  rw [Hrm.out]
  rintro e w' ⟨rfl, rfl⟩
  go_wp2_with fail
  refine (refRoom_any _ _).mono ?_
  rw [Hrm.out]
  rintro e w' ⟨rfl, rfl⟩
  have hg := HeadAt.new w (seg : Int) (row : Int) (shard : Int) sz 89
  have hbel0 : Below w.heap.size w (w.alloc (.cells #[.int .u64 (seg : Int), .int .i64 (row : Int), .int .i64 (shard : Int), .int .i64 sz] 89)) := (Below.refl _ _).alloc (Nat.le_refl _) _
  have hszW : (w.alloc (.cells #[.int .u64 (seg : Int), .int .i64 (row : Int), .int .i64 (shard : Int), .int .i64 sz] 89)).heap.size = w.heap.size + 1 := by simp
  go_wp2_with fail
  generalize w.alloc (.cells #[.int .u64 (seg : Int), .int .i64 (row : Int), .int .i64 (shard : Int), .int .i64 sz] 89) = W0 at hg hbel0 hszW ⊢
  obtain ⟨base, hbase⟩ : ∃ base, base = W0.heap.size := ⟨_, rfl⟩
  have Hbase := Lib.hid hbase
  have HszW := Lib.hid hszW
  have Hg := Lib.hid hg
  have Hbel0 := Lib.hid hbel0
  clear hbase hszW hg hbel0
  refine (low_any base (.slice none 0 0) [] seg 8 W0 (by omega) Hseg.out (Own.nil _ _) (Nat.le_of_eq Hbase.out) (by simp)).mono ?_
  rintro e W1 ⟨b1, rfl, hown1, hbel1⟩
  have Hown1 : Hid (Own W1 base b1 (leBytes 8 seg)) := hown1
  have Hbel1 : Hid (Below base W0 W1) := hbel1
  obtain ⟨g0, g1, g2, g3⟩ := Hg.out.below hbel1 (by rw [Hbase.out, HszW.out]; omega)
  clear hown1 hbel1
  go_wp2_with fail
  have Hs1 : Hid (base ≤ W1.heap.size) := Nat.le_trans (Nat.le_of_eq Hbase.out) Hbel1.out.size
  refine (low_any base b1 (leBytes 8 seg) row 4 W1 (by omega) Hrow2.out Hown1.out Hs1.out (by rw [leBytes_length]; omega)).mono ?_
  rintro e W2 ⟨b2, rfl, hown2, hbel2⟩
  have Hown2 := Lib.hid hown2
  have Hbel2 : Hid (Below base W0 W2) := Hbel1.out.trans hbel2
  clear g0 g1 g2 g3
  obtain ⟨g0, g1, g2, g3⟩ := Hg.out.below Hbel2.out (by rw [Hbase.out, HszW.out]; omega)
  have Hs2 : Hid (base ≤ W2.heap.size) := Nat.le_trans (Nat.le_of_eq Hbase.out) Hbel2.out.size
  have hby : (shard : Int) % 256 = (shard : Int) := by omega
  have Hb : Hid ([Value.int .u8 (shard : Int)] = bvs [UInt8.ofNat shard]) := by show _ = _; simp [bvs, bv]; omega
  have Hl2 : Hid ((leBytes 8 seg ++ leBytes 4 row).length + 1 ≤ 140737488355327) := by show _ ≤ _; rw [List.length_append, leBytes_length, leBytes_length]; omega
  clear hown2 hbel2
  go_wp2_with (at_builtin; refine app_bytes rfl (.tmp 45) (.tmp 49) rfl base _ _ rfl (Own.alloc Hown2.out _) _ _ 1 1 [UInt8.ofNat shard] rfl rfl (RB.new _ _ _ _ Hb.out) Hl2.out (Nat.le_trans Hs2.out (by simp)) ?_; intro b3 W3 hown3 hbel3 _)
  clear g0 g1 g2 g3
  have Hown3 := Lib.hid hown3
  have Hbel3 : Hid (Below base W0 W3) := (Hbel2.out.alloc Hs2.out _).trans hbel3
  have Hs3 : Hid (base ≤ W3.heap.size) := Nat.le_trans (Nat.le_of_eq Hbase.out) Hbel3.out.size
  clear hown3 hbel3
  refine (low_any base b3 (leBytes 8 seg ++ leBytes 4 row ++ [UInt8.ofNat shard]) x.length 2 W3 (by omega) Hxl2.out Hown3.out Hs3.out (by rw [List.length_append, List.length_append, leBytes_length, leBytes_length, List.length_singleton]; omega)).mono ?_
  rintro e W4 ⟨b4, rfl, hown4, hbel4⟩
  have hown4' : Own W4 base b4 (leBytes 8 seg ++ (leBytes 4 row ++ (leBytes 1 shard ++ leBytes 2 x.length))) := by
    have : leBytes 8 seg ++ leBytes 4 row ++ [UInt8.ofNat shard] ++ leBytes 2 x.length = leBytes 8 seg ++ (leBytes 4 row ++ (leBytes 1 shard ++ leBytes 2 x.length)) := by
      simp [leBytes]
    rw [← this]
    exact hown4
  have Hbel4 : Hid (Below base W0 W4) := Hbel3.out.trans hbel4
  have Hs4 : Hid (base ≤ W4.heap.size) := Nat.le_trans (Nat.le_of_eq Hbase.out) Hbel4.out.size
  obtain ⟨l4, hl4⟩ : ∃ l4, l4 = leBytes 8 seg ++ (leBytes 4 row ++ (leBytes 1 shard ++ leBytes 2 x.length)) := ⟨_, rfl⟩
  have hl4n : l4.length = 15 := by rw [hl4]; simp [leBytes_length]
  rw [← hl4] at hown4'
  have Hown4 := Lib.hid hown4'
  have Hbody : Hid (pageBody n seg row shard x = (l4 ++ x) ++ List.replicate (n - 19 - x.length) 0) := by show _ = _; rw [pageBody, hl4]; simp only [List.append_assoc]
  have Hl4 : Hid (l4.length + x.length ≤ 140737488355327) := by show _ ≤ _; omega
  have Hr4 : Hid (RB W4 w.heap.size A x) := ((Hr.out.below (Hbel0.out.mono HB.out)).below (Hbel4.out.mono (by rw [Hbase.out, HszW.out]; have := HB.out; omega))).wide HB.out
  clear hown4 hown4' hbel4 hl4
  go_wp2_with (at_builtin; refine app_bytes rfl (.tmp 56) (.tmp 57) rfl base _ _ rfl Hown4.out _ A x.length c x rfl rfl Hr4.out Hl4.out Hs4.out ?_; intro b5 W5 hown5 hbel5 _)
  have Hown5 := Lib.hid hown5
  have Hbel5 : Hid (Below base W0 W5) := Hbel4.out.trans hbel5
  have Hl5 : Hid ((l4 ++ x).length = 15 + x.length) := by show _ = _; rw [List.length_append, hl4n]
  generalize l4 ++ x = l5 at *
  clear hown5 hbel5
  have Hs5 : Hid (base ≤ W5.heap.size) := Nat.le_trans (Nat.le_of_eq Hbase.out) Hbel5.out.size
  have hlk : ∀ k, (l5 ++ List.replicate k (0 : UInt8)).length = 15 + x.length + k := fun k => by rw [List.length_append, List.length_replicate, Hl5.out]
  have Hlk := Lib.hid hlk
  clear hlk
  go_loopw [8] (fun b wr => ∃ k : Nat, k ≤ n - 19 - x.length ∧ Hid (Own wr base b (l5 ++ List.replicate k 0)) ∧ Hid (Below base W0 wr)) (fun b _ => match b with | .slice _ len _ => n - len | _ => n + 1)
  case atStart => exact ⟨0, by omega, by show Own _ _ _ _; rw [List.replicate_zero, List.append_nil]; exact Hown5.out, Hbel5.out⟩
  case round =>
    obtain ⟨k, hk, hown, hbel⟩ := hrel
    obtain ⟨P, cp, hbv, hcp, hrp, _⟩ := hown.out.rb
    rw [Hlk.out k] at hbv
    subst hbv
    have Hsr : Hid (base ≤ wr.heap.size) := Nat.le_trans (Nat.le_of_eq Hbase.out) hbel.out.size
    have Hrp := Lib.hid hrp
    clear hrp hcp
    by_cases hkl : k < n - 19 - x.length
    · have Hlen : Hid ((l5 ++ List.replicate k (0 : UInt8)).length + 1 ≤ 140737488355327) := by show _ ≤ _; rw [Hlk.out k]; omega
      have Hz : Hid ([Value.int .u8 0] = bvs [(0 : UInt8)]) := rfl
      have hlt : 15 + (x.length : Int) + (k : Int) < (n : Int) - 4 := by omega
      go_wp2_with (at_builtin; refine app_bytes rfl (.tmp 64) (.tmp 65) rfl base _ _ rfl (Own.alloc hown.out _) _ _ 1 1 [(0 : UInt8)] rfl rfl (RB.new _ _ _ _ Hz.out) Hlen.out (Nat.le_trans Hsr.out (by simp)) ?_; intro v1 w1 hown2 hbel2 _)
      obtain ⟨P2, cp2, rfl, _, _, _⟩ := hown2.rb
      exact ⟨⟨k + 1, by omega, by
        show Own _ _ _ _
        rw [List.replicate_succ', ← List.append_assoc]
        exact hown2, (hbel.out.alloc Hsr.out _).trans hbel2⟩, by have := Hl5.out; simp; omega⟩
    · obtain rfl : k = n - 19 - x.length := by omega
      have hge : (n : Int) - 4 ≤ 15 + (x.length : Int) + ((n - 19 - x.length : Nat) : Int) := by omega
      have hsum := refSum_any P cp (l5 ++ List.replicate (n - 19 - x.length) 0) wr _ Hrp.out (by rw [Hlk.out]; omega)
      have Hlt := Lib.hid (sumOf_lt (l5 ++ List.replicate (n - 19 - x.length) 0))
      have Hfin : Hid (pageBytes n seg row shard x = leBytes 4 (sumOf (l5 ++ List.replicate (n - 19 - x.length) 0)) ++ (l5 ++ List.replicate (n - 19 - x.length) 0)) := by show _ = _; rw [pageBytes, Hbody.out]
      have Hlm := Lib.hid (Hlk.out (n - 19 - x.length))
      rw [Hlm.out] at hsum
      generalize sumOf (l5 ++ List.replicate (n - 19 - x.length) 0) = sm at hsum Hlt Hfin
      generalize l5 ++ List.replicate (n - 19 - x.length) 0 = body at *
      obtain ⟨m, hm⟩ : ∃ m, m = 15 + x.length + (n - 19 - x.length) := ⟨_, rfl⟩
      have hm2 : m ≤ 65536 := by omega
      have Hm := Lib.hid hm
      have Hsum := Lib.hid hsum
      clear hsum hm
      go_wp2_with fail
      refine Hsum.out.mono ?_
      rintro e w' ⟨rfl, rfl⟩
      go_wp2_with fail
      refine (four_any wr.heap.size (.slice none 0 0) [] sm wr Hlt.out (Own.nil _ _) (Nat.le_refl _) (by simp)).mono ?_
      rintro e W7 ⟨b7, rfl, hown7, hbel7⟩
      have Hown7 : Hid (Own W7 wr.heap.size b7 (leBytes 4 sm)) := hown7
      have Hbel7 := Lib.hid hbel7
      have Hr7 := Lib.hid (Hrp.out.below hbel7)
      have Hl7 : Hid ((leBytes 4 sm).length + body.length ≤ 140737488355327) := by show _ ≤ _; rw [leBytes_length, Hlm.out]; omega
      have Hs7 := Lib.hid hbel7.size
      clear hown7 hbel7
      go_wp2_with (at_builtin; refine app_bytes rfl (.tmp 69) (.tmp 70) rfl wr.heap.size _ _ rfl Hown7.out _ P (15 + x.length + (n - 19 - x.length)) cp body rfl Hlm.out.symm Hr7.out Hl7.out Hs7.out ?_; intro v8 w8 hown8 hbel8 _)
      have hend : Below w.heap.size W0 wr := hbel.out.mono (by rw [Hbase.out, HszW.out]; omega)
      have hend2 : Below w.heap.size w wr := Hbel0.out.trans hend
      go_ret2
      exact ⟨_, rfl, by rw [Hfin.out]; exact hown8.wide hend2.size, hend2.trans ((Hbel7.out.trans hbel8).mono hend2.size)⟩

theorem refPage_any (s row shard : Int) (seg : Nat) (sz : Int) (A : Option Addr) (c : Nat) (x : List UInt8) (w : World) (B : Nat) (hr : RB w B A x) (hB : B ≤ w.heap.size) (hseg : seg < two64) :
    Calls Tryd.prog 47 #[.int .i64 s, .agg #[.int .u64 (seg : Int), .int .i64 row, .int .i64 shard, .int .i64 sz], .slice A x.length c] w
      fun e w' => ∃ v, e = .returned (.tuple #[v, .int .i64 (pageErr s row shard x.length : Nat)]) ∧ Own w' w.heap.size v (pageOf s row shard seg x) ∧ Below w.heap.size w w' := by
  by_cases h1 : roomOf s = 0 ∨ row < 0 ∨ 1073741824 < row ∨ shard < 0 ∨ 255 < shard
  · have he : pageErr s row shard x.length = 1 := by unfold pageErr; rw [if_pos h1]
    unfold pageOf
    rw [he]
    exact (refPage_bad1 s row shard seg sz A x.length c w h1).mono fun e w' ⟨he, hb⟩ => ⟨_, he, Own.nil _ _, hb⟩
  · by_cases h3 : roomOf s < (x.length : Int)
    · have he : pageErr s row shard x.length = 3 := by unfold pageErr; rw [if_neg h1, if_pos h3]
      unfold pageOf
      rw [he]
      exact (refPage_bad3 s row shard seg sz A x.length c w h1 h3).mono fun e w' ⟨he, hb⟩ => ⟨_, he, Own.nil _ _, hb⟩
    · have he : pageErr s row shard x.length = 0 := by unfold pageErr; rw [if_neg h1, if_neg h3]
      obtain ⟨e1, e2, e3, e4, e5, e6, e7, e8⟩ := pageErr_none he
      unfold pageOf
      rw [he]
      obtain ⟨n, rfl⟩ := Int.eq_ofNat_of_zero_le (show 0 ≤ s by omega)
      obtain ⟨row, rfl⟩ := Int.eq_ofNat_of_zero_le e5
      obtain ⟨shard, rfl⟩ := Int.eq_ofNat_of_zero_le e7
      simp only [Int.toNat_natCast, if_true]
      exact refPage_ok n seg row shard sz A c x w B hr hB (by omega) (by omega) (by omega) (by omega) hseg (by omega) (by omega)
end Go.Proofs.YtlficcdbnmheeaaDoor

/-
  FrameWrites: whatever the bytes, the number, the parts, the size, the head: the call returns true.
-/
import Derived.Test.YtlgeknibdgamgaaDoorBack
import Derived.Test.YtlgeknibdgamgaaDoorBytes
import Derived.Test.YtlgeknibdgamgaaDoorRefPage
namespace Go.Proofs.YtlgeknibdgamgaaDoor
open Go.RowKit

/-- append(v, x...) behind a guard that says yes. -/
theorem app_bytes_want {w : World} {ops : Array Oper} {rest : List Oper} {o : Oper} {a : Act} {Q : Exit → Act → World → Prop} (hgd : Region.wanted o (yielded ops a.tmps) = true) (s x : Operand)
    (ho : o.op = .call { callee := .builtin .append, args := #[s, x], argTypes := #[24, 24] })
    (base : Nat) (v : Value) (l : List UInt8) (hs : a.eval s = v) (hown : Own w base v l)
    (B : Nat) (A : Option Addr) (m c : Nat) (r : List UInt8) (hx : a.eval x = .slice A m c) (hm : m = r.length) (hr : RB w B A r)
    (hlen : l.length + r.length ≤ 140737488355327) (hbase : base ≤ w.heap.size)
    (h : ∀ v' w', Own w' base v' (l ++ r) → Below base w w' → w.grownBy w' v.ownBlock → wpList Tryd.prog ops Q rest (a.put o.dst v') w') :
    wpList Tryd.prog ops Q (o :: rest) a w := by
  subst hm
  obtain ⟨i0, hi0, hz0, hz1, hz2⟩ := info_parts info8
  refine BigFrame.wpList_want hgd fun K hK => ?_
  have run : ∃ v' w', (Builtin.append_ #[24, 24] o.type #[v, .slice A r.length c]).run Tryd.prog w = .ok v' w' ∧ Own w' base v' (l ++ r) ∧ w.grownBy w' v.ownBlock ∧ (v'.ownBlock = v.ownBlock ∨ v'.ownBlock = some w.heap.size) := by
    by_cases h0 : r.length = 0
    · obtain rfl : r = [] := List.eq_nil_of_length_eq_zero h0
      refine ⟨v, w, ?_, by simpa [Own] using hown, World.grownBy.refl w _, .inl rfl⟩
      rcases hown.2 with ⟨rfl, _⟩ | ⟨g, cap, cur, rfl, _, _, hnc, _⟩
      · cases A <;> simp [Builtin.append_, run_underlying Tryd.underlying24, sizeOf, typeInfo, hi0, Builtin.lenOf, Builtin.firstCells, loadCells, loadCellsFrom]
      · cases A <;> simp [Builtin.append_, run_underlying Tryd.underlying24, sizeOf, typeInfo, hi0, Builtin.lenOf, Builtin.firstCells, hnc, storeCells, loadCells, loadCellsFrom]
    · have hr0 : 0 < r.length := by omega
      obtain ⟨ad, rfl, _, _⟩ := hr.at_ hr0
      obtain ⟨v', w', hrun, h2, h3, _, h5⟩ := run_append_own_at (P := Tryd.prog) w base 24 o.type 5 i0 (.int .u8 0) 1 1 Tryd.underlying24 hi0 hz0 hz1 hz2 rfl (by omega) v l.length (bvs l) hown ad r.length c (bvs r)
        (by simp [bvs]) (fun j u hu => by
          simp only [bvs, List.getElem?_map, Option.map_eq_some_iff] at hu
          obtain ⟨y, hy, rfl⟩ := hu
          obtain ⟨ad', e, _, hc⟩ := hr j y hy
          cases e
          exact hc) (bvs_one r) (by simp only [maxLen]; omega) (by omega) hbase
      exact ⟨v', w', hrun, by simpa [Own, bvs] using h2, h3, h5⟩
  obtain ⟨v', w', hrun, h2, h3, h4⟩ := run
  unfold Oper.wp execOp
  simp only [ho, resolve, invoke, builtin, Sem.run_bind, Sem.run_pure, Result.andThen_ok, List.map_toArray, List.map_cons, List.map_nil, hs, hx, hrun]
  exact hK _ _ (h v' w' h2 ((Below.refl _ _).grown h3 hbase hown.ge) h3)

/-- what stands while the law's parts are called -/
structure WS (w W : World) (seg row shard sz : Int) (A : Option Addr) (b : List UInt8) (L : Option Addr) (ls : List (List UInt8)) (Am : Option Addr) (Ax : Option Addr) (x : List UInt8) : Prop where
  hd : HdAt w W seg row shard sz
  rb : RB W w.heap.size A b
  rbb : RBB W w.heap.size L ls
  rm : RB W W.heap.size Am b
  rx : RB W W.heap.size Ax x
theorem WS.below {w W W' : World} {seg row shard sz : Int} {A : Option Addr} {b : List UInt8} {L : Option Addr} {ls : List (List UInt8)} {Am Ax : Option Addr} {x : List UInt8} (h : WS w W seg row shard sz A b L ls Am Ax x) (hb : Below W.heap.size W W') :
    WS w W' seg row shard sz A b L ls Am Ax x :=
  ⟨h.hd.below hb, h.rb.below (hb.mono h.hd.bel.size), h.rbb.below (hb.mono h.hd.bel.size), (h.rm.below hb).wide hb.size, (h.rx.below hb).wide hb.size⟩

set_option maxRecDepth 200000 in
set_option maxHeartbeats 20000000 in
theorem writes_walk (A : Option Addr) (b : List UInt8) (c : Nat) (v : Nat) (L : Option Addr) (ls : List (List UInt8)) (cl : Nat) (s : Int) (seg : Nat) (row shard sz : Int) (w : World) (ht : Tab w) (hr : RB w w.heap.size A b) (hrr : RBB w w.heap.size L ls)
    (hc : b.length ≤ c) (hcl : ls.length ≤ 1099511627776 ∨ True) (hv : v < two64) (hseg : seg < two64) :
    Calls Tryd.prog 5 #[.slice A b.length c, .int .u64 (v : Int), .slice L ls.length cl, .int .i64 s, .agg #[.int .u64 (seg : Int), .int .i64 row, .int .i64 shard, .int .i64 sz]] w
      fun e w' => e = .returned (.bool true) ∧ Below w.heap.size w w' := by
  have Ht := Lib.hid ht
  have Hpos := Lib.hid ht.pos
  have Hr := Lib.hid hr
  have Hrr := Lib.hid hrr
  have Hv := Lib.hid hv
  have Hseg := Lib.hid hseg
  clear ht hr hrr hv hseg hcl
  go_enter Tryd.func5, Tryd.ntmps5
  go_wp2_with fail
  have hh := HdAt.new w seg row shard sz 47
  generalize w.alloc (.cells #[.int .u64 (seg : Int), .int .i64 row, .int .i64 shard, .int .i64 sz] 47) = W0 at hh ⊢
  refine (known_any W0 (Ht.out.below hh.bel Hpos.out)).mono ?_
  rintro e W1 ⟨rfl, hb1⟩
  have Hh1 := Lib.hid (hh.below hb1)
  clear hh hb1 W0
  go_wp2_with fail
  refine (joined_any L cl ls W1 ((Hrr.out.below Hh1.out.bel).wide Hh1.out.bel.size)).mono ?_
  rintro e W2 ⟨xv, ok, rfl, hbj, hok⟩
  have Hh2 := Lib.hid (Hh1.out.below hbj)
  have Hok := Lib.hid hok
  clear hok hbj
  by_cases hbig : 65536 < b.length
  · have hbig' : (65536 : Int) < (b.length : Int) := by omega
    go_wp2_with fail
    go_ret
    exact ⟨rfl, Hh2.out.bel⟩
  · have hbig' : (b.length : Int) ≤ 65536 := by omega
    cases ok with
    | false =>
      go_wp2_with fail
      go_ret
      exact ⟨rfl, Hh2.out.bel⟩
    | true =>
      obtain ⟨hown, hfl, hln⟩ := Hok.out rfl
      obtain ⟨Ax, cx, rfl, hcx, hrx, _⟩ := hown.rb
      have Hln := Lib.hid hln
      have Hrx := Lib.hid hrx
      have Hrb2 := Lib.hid (Hr.out.below Hh2.out.bel)
      have Hrr2 := Lib.hid (Hrr.out.below Hh2.out.bel)
      have Hsz2 := Lib.hid Hh2.out.bel.size
      have hfl' : (ls.flatten.length : Int) ≤ 65536 := by omega
      have Hfe : Hid (ls.flatten = ls.flatten) := rfl
      have Hbytes : Hid (∀ (A : Option Addr) (c : Nat) (l : List UInt8) (w : World), RB w w.heap.size A l → RBB w w.heap.size L ls → l.length ≤ 65600 → Calls Tryd.prog 26 #[.slice A l.length c, .slice L ls.length cl] w fun e w' => ∃ b', e = .returned b' ∧ Own w' w.heap.size b' (l ++ (numBytes ls.flatten.length ++ ls.flatten)) ∧ Below w.heap.size w w') :=
        fun A c l w h1 h2 h3 => bytes_any A c l L cl ls w h1 h2 h3 hfl (by omega)
      clear Hok hown hrx hln Hfe
      generalize ls.flatten = x at *
      go_wp2_with (at_builtin; refine app_bytes rfl (.tmp 32) (.tmp 33) rfl W2.heap.size _ [] rfl (Own.made W2 _ (Nat.le_refl _)) _ A b.length c b rfl rfl ((Hrb2.out.alloc Hsz2.out _)) (by simp; omega) (by simp) ?_; intro vm W3 hownm hbelm _)
      have hbel23 : Below W2.heap.size W2 W3 := ((Below.refl _ _).alloc (Nat.le_refl _) _).trans hbelm
      have hownm' : Own W3 W2.heap.size vm b := hownm
      obtain ⟨Am, cm, rfl, hcm, hrm, _⟩ := hownm'.rb
      have Hw3 : Hid (WS w W3 seg row shard sz A b L ls Am Ax x) := ⟨Hh2.out.below hbel23, Hrb2.out.below (hbel23.mono Hsz2.out), Hrr2.out.below (hbel23.mono Hsz2.out), hrm, (Hrx.out.below hbel23).wide hbel23.size⟩
      clear hownm hownm' hrm hbelm hbel23 Hrx Hrb2 Hrr2 Hsz2 Hh2
      refine (number_any Am cm b v W3 _ Hw3.out.rm (Nat.le_refl _) (by omega) Hv.out).mono ?_
      rintro e W4 ⟨v4, rfl, hown4, hb4⟩
      have Hw4 := Lib.hid (Hw3.out.below hb4)
      generalize hl1 : b ++ numBytes v = l1 at hown4
      have Hl1 := Lib.hid hl1
      obtain ⟨P4, c4, rfl, _, hr4, _⟩ := hown4.rb
      have Hr4 := Lib.hid hr4
      have Hrb4 := Lib.hid Hw4.out.rb
      have Hs4 := Lib.hid Hw4.out.hd.bel.size
      clear hown4 hr4 hb4 Hw3 hl1
      go_wp2_with (at_builtin; refine app_bytes rfl (.tmp 38) (.tmp 39) rfl W4.heap.size _ [] rfl (Own.made W4 _ (Nat.le_refl _)) _ A b.length c b rfl rfl (Hrb4.out.alloc Hs4.out _) (by simp; omega) (by simp) ?_; intro v5 W5 hown5 hbel5 _)
      have hb45 : Below W4.heap.size W4 W5 := ((Below.refl _ _).alloc (Nat.le_refl _) _).trans hbel5
      have hown5' : Own W5 W4.heap.size v5 b := hown5
      refine (refNumber_any W4.heap.size v5 b v W5 Hv.out hown5' hb45.size (by omega)).mono ?_
      rintro e W6 ⟨v6, rfl, hown6, hb6⟩
      have hb46 := hb45.trans hb6
      have Hw6 := Lib.hid (Hw4.out.below hb46)
      rw [Hl1.out] at hown6
      obtain ⟨P6, c6, rfl, _, hr6, _⟩ := hown6.rb
      have hs := same_any P4 P6 c4 c6 l1 l1 W6 _ _ (Hr4.out.below hb46) hr6
      rw [show (l1 == l1) = true from by simp] at hs
      have Hs := Lib.hid hs
      clear hs hr6 hown6 hown5 hown5' hb45 hb46 hb6 hbel5 Hr4 Hrb4 Hs4 Hw4 Hl1
      go_wp2_with fail
      refine Hs.out.mono ?_
      rintro e w' ⟨rfl, rfl⟩
      go_wp2_with fail
      refine (Hbytes.out Am cm b W6 Hw6.out.rm (Hw6.out.rbb.wide Hw6.out.hd.bel.size) (by omega)).mono ?_
      rintro e W7 ⟨v7, rfl, hown7, hb7⟩
      have Hw7 := Lib.hid (Hw6.out.below hb7)
      generalize hl2 : b ++ (numBytes x.length ++ x) = l2 at hown7
      have Hl2 := Lib.hid hl2
      obtain ⟨P7, c7, rfl, _, hr7, _⟩ := hown7.rb
      have Hr7 := Lib.hid hr7
      have Hrb7 := Lib.hid Hw7.out.rb
      have Hs7 := Lib.hid Hw7.out.hd.bel.size
      clear hown7 hr7 hb7 Hw6 hl2 Hs Hbytes
      go_wp2_with (at_builtin; refine app_bytes_want rfl (.tmp 49) (.tmp 50) rfl W7.heap.size _ [] rfl (Own.made W7 _ (Nat.le_refl _)) _ A b.length c b rfl rfl (Hrb7.out.alloc Hs7.out _) (by simp; omega) (by simp) ?_; intro v8 W8 hown8 hbel8 _)
      have hb78 : Below W7.heap.size W7 W8 := ((Below.refl _ _).alloc (Nat.le_refl _) _).trans hbel8
      have hown8' : Own W8 W7.heap.size v8 b := hown8
      refine (refBytes_any W7.heap.size v8 b Ax cx x W8 hown8' hb78.size (Hw7.out.rx.below hb78) (by omega) (by omega)).mono ?_
      rintro e W9 ⟨v9, rfl, hown9, hb9⟩
      have hb79 := hb78.trans hb9
      have Hw9 := Lib.hid (Hw7.out.below hb79)
      rw [Hl2.out] at hown9
      obtain ⟨P9, c9, rfl, _, hr9, _⟩ := hown9.rb
      have hs := same_any P7 P9 c7 c9 l2 l2 W9 _ _ (Hr7.out.below hb79) hr9
      rw [show (l2 == l2) = true from by simp] at hs
      have Hs := Lib.hid hs
      clear hs hr9 hown9 hown8 hown8' hb78 hb79 hb9 hbel8 Hr7 Hrb7 Hs7 Hw7 Hl2
      go_wp2_with fail
      refine Hs.out.mono ?_
      rintro e w' ⟨rfl, rfl⟩
      go_wp2_with fail
      have hs2 := same_any Am A cm c b b W9 _ _ Hw9.out.rm Hw9.out.rb
      rw [show (b == b) = true from by simp] at hs2
      refine hs2.mono ?_
      clear hs2 Hs
      rintro e w' ⟨rfl, rfl⟩
      go_wp2_with fail
      refine (record_any v Ax cx x W9 (Ht.out.below Hw9.out.hd.bel Hpos.out) Hw9.out.rx Hv.out (by omega)).mono ?_
      rintro e W10 ⟨v10, rfl, hown10, hb10⟩
      have Hw10 := Lib.hid (Hw9.out.below hb10)
      generalize hl3 : recBytes v x = l3 at hown10
      have Hl3 := Lib.hid hl3
      obtain ⟨P10, c10, rfl, _, hr10, _⟩ := hown10.rb
      have Hr10 := Lib.hid hr10
      clear hown10 hr10 hb10 Hw9 hl3
      go_wp2_with fail
      refine (refRecord_any v Ax cx x W10 Hw10.out.rx Hv.out (by omega)).mono ?_
      rintro e W11 ⟨v11, rfl, hown11, hb11⟩
      have Hw11 := Lib.hid (Hw10.out.below hb11)
      rw [Hl3.out] at hown11
      obtain ⟨P11, c11, rfl, _, hr11, _⟩ := hown11.rb
      have hs := same_any P10 P11 c10 c11 l3 l3 W11 _ _ (Hr10.out.below hb11) hr11
      rw [show (l3 == l3) = true from by simp] at hs
      have Hs := Lib.hid hs
      clear hs hr11 hown11 hb11 Hr10 Hw10 Hl3
      go_wp2_with fail
      refine Hs.out.mono ?_
      rintro e w' ⟨rfl, rfl⟩
      go_wp2_with fail
      refine (room_any _ _).mono ?_
      rintro e w' ⟨rfl, rfl⟩
      go_wp2_with fail
      refine (refRoom_any _ _).mono ?_
      rintro e w' ⟨rfl, rfl⟩
      obtain ⟨g0, g1, g2, g3⟩ := Hw11.out.hd.g
      clear Hs
      go_wp2_with fail
      refine (page_any s row shard seg sz Ax cx x W11 _ (Ht.out.below Hw11.out.hd.bel Hpos.out) Hw11.out.rx (Nat.le_refl _) Hseg.out hcx).mono ?_
      rintro e W12 ⟨v12, rfl, hown12, hb12⟩
      have Hw12 := Lib.hid (Hw11.out.below hb12)
      generalize hl4 : pageOf s row shard seg x = l4 at hown12
      have Hl4 := Lib.hid hl4
      obtain ⟨P12, c12, rfl, _, hr12, _⟩ := hown12.rb
      have Hr12 := Lib.hid hr12
      clear hown12 hr12 hb12 Hw11 hl4 g0 g1 g2 g3
      obtain ⟨g0, g1, g2, g3⟩ := Hw12.out.hd.g
      go_wp2_with fail
      refine (refPage_any s row shard seg sz Ax cx x W12 _ Hw12.out.rx (Nat.le_refl _) Hseg.out).mono ?_
      rintro e W13 ⟨v13, rfl, hown13, hb13⟩
      have Hw13 := Lib.hid (Hw12.out.below hb13)
      rw [Hl4.out] at hown13
      obtain ⟨P13, c13, rfl, _, hr13, _⟩ := hown13.rb
      have hs := same_any P12 P13 c12 c13 l4 l4 W13 _ _ (Hr12.out.below hb13) hr13
      rw [show (l4 == l4) = true from by simp] at hs
      have Hs := Lib.hid hs
      clear hs hr13 hown13 hb13 Hr12 Hw12 Hl4 g0 g1 g2 g3
      generalize pageErr s row shard x.length = er
      go_wp2_with fail
      refine Hs.out.mono ?_
      rintro e w' ⟨rfl, rfl⟩
      go_wp2_with fail
      go_ret
      exact ⟨by simp, Hw13.out.hd.bel⟩
end Go.Proofs.YtlgeknibdgamgaaDoor

/-
  A record's front is read.
-/
import Derived.Test.YtkjogkmdldplgaaDoorKLgTurn
import Derived.OwnWalk
namespace Go.Proofs.YtkjogkmdldplgaaDoor
open Go.RowKit

theorem front_num {m : List UInt8} {R a u : Nat} {r X : List UInt8} (h : cyc m R a u = encR r ++ X) (hu : u ≤ 67108864) : readNum (cyc m R a (min 4 u)) = (r.length, (numBytes r.length).length, 0) ∧ (numBytes r.length).length + r.length ≤ u := by
  have hl : (encR r ++ X).length = u := by rw [← h, cyc_length]
  rw [List.length_append, encR_length] at hl
  have h4 : (numBytes r.length).length ≤ 4 := numBytes_len 3 r.length (by have h128 : 128 ^ 4 = 268435456 := (by decide); omega)
  refine ⟨?_, by omega⟩
  rw [← cyc_take m R a (min 4 u) u (by omega), h]
  unfold encR
  rw [List.append_assoc, List.take_append, List.take_of_length_le (by omega)]
  exact readNum_forth _ _ (by rw [two64_eq]; omega)
section
set_option maxRecDepth 20000
set_option maxHeartbeats 4000000
theorem front_any (pw nv lb R : Nat) (P : Pow) (D : Dev) (O : Nat → Option Tag) (b : Bd) (r X : List UInt8) (w : World) (h : SysAt w O pw P nv D) (hoff : P.off = false) (hl : LogC w lb nv R) (hR : R = D.mem.length - 57) (hR0 : 0 < R) (ha : b.at_ ≤ 67108864) (hu : b.used ≤ R) (hx : cyc D.mem R b.at_ b.used = encR r ++ X) :
    Calls Tryd.prog 43 #[.pointer (some ⟨lb, 0, none⟩), bdV b] w fun e w' => e = .returned (.tuple #[.int .i64 ((numBytes r.length).length : Int), .int .i64 (r.length : Int), .nilIface]) ∧ Below w.heap.size w w' := by
  have hhi := h.ok.high
  obtain ⟨hnum, hle⟩ := front_num hx (by omega)
  obtain ⟨w0, hw0⟩ : ∃ w0, w0 = w.alloc (.cells #[.int .u64 (b.first : Int), .int .u64 (b.next : Int), .int .i64 (b.at_ : Int), .int .i64 (b.used : Int)] 62) := ⟨_, rfl⟩
  have hb0 : Below w.heap.size w w0 := by rw [hw0]; exact (Below.refl _ w).alloc (Nat.le_refl _) _
  have hbox : Cells w0 w.heap.size 62 (bdL b) := by rw [hw0]; exact Cells.new w #[.int .u64 (b.first : Int), .int .u64 (b.next : Int), .int .i64 (b.at_ : Int), .int .i64 (b.used : Int)] _
  have k2 : (w.alloc (.cells #[.int .u64 (b.first : Int), .int .u64 (b.next : Int), .int .i64 (b.at_ : Int), .int .i64 (b.used : Int)] 62)).cell? ⟨w.heap.size, 2, none⟩ = some (.int .i64 (b.at_ : Int)) := by rw [← hw0]; exact hbox.cell rfl
  have k3 : (w.alloc (.cells #[.int .u64 (b.first : Int), .int .u64 (b.next : Int), .int .i64 (b.at_ : Int), .int .i64 (b.used : Int)] 62)).cell? ⟨w.heap.size, 3, none⟩ = some (.int .i64 (b.used : Int)) := by rw [← hw0]; exact hbox.cell rfl
  have Hr : Hid (Calls Tryd.prog 31 #[.pointer (some ⟨lb, 0, none⟩), .int .i64 (b.at_ : Int), .int .i64 ((min 4 b.used : Nat) : Int)] w0 fun e w1 => ∃ A L c, e = .returned (.tuple #[.slice A L c, .nilIface]) ∧ Below w.heap.size w w1 ∧ w1.cell? ⟨w.heap.size, 3, none⟩ = some (.int .i64 (b.used : Int)) ∧
      Calls Tryd.prog 53 #[.slice A L c] w1 fun e w' => e = .returned (.tuple #[.int .u64 (r.length : Int), .int .i64 ((numBytes r.length).length : Int), .int .i64 0]) ∧ w1 = w') := by
    refine (lread_any pw nv lb R b.at_ (min 4 b.used) P D O w0 (h.below hb0) hoff (hl.move (hb0.block lb hl.lt)) hR hR0 (by omega) (by omega)).mono ?_
    rintro e w1 ⟨v, rfl, ho, hb⟩
    obtain ⟨A, c, rfl, h1, h2, h3⟩ := ho.rb
    refine ⟨A, _, c, rfl, hb0.trans (hb.mono hb0.size), (hbox.move (hb.block _ hbox.lt)).cell rfl, ?_⟩
    have := rn_any A c _ w1 _ h2 (by rw [cyc_length]; omega) h1 h3
    rw [hnum] at this
    exact this
  have hub : (b.used : Int) ≤ 67108864 := by omega
  have hle2 : (r.length : Int) ≤ (b.used : Int) - ((numBytes r.length).length : Int) := by omega
  have hwu : IntKind.u64.wrap ((b.used : Int) - ((numBytes r.length).length : Int)) = (b.used : Int) - ((numBytes r.length).length : Int) := by rw [IntKind.wrap_u64]; omega
  have hwr : IntKind.i64.wrap (r.length : Int) = (r.length : Int) := IntWalk.i64_in _ (by omega)
  generalize (numBytes r.length).length = nl at *
  generalize r.length = rl at *
  clear hnum hx hle h hl hb0 hbox hhi hoff hR hR0 hu
  unfold bdV
  by_cases hm : (b.used : Int) < 4
  · have hmin : min 4 b.used = b.used := by omega
    rw [hmin] at Hr
    clear hmin
    go_enter Tryd.func43, Tryd.ntmps43
    go_wp2_with fail
    rw [← hw0]
    clear hw0
    refine Hr.out.mono ?_
    rintro e w1 ⟨A, L, c, rfl, hb1, k4, hn⟩
    have Hb1 := Lib.hid hb1
    have Hn := Lib.hid hn
    clear hb1 hn k2 k3
    go_wp2_with fail
    refine Hn.out.mono ?_
    rintro e w2 ⟨rfl, rfl⟩
    go_wp2_with fail
    go_ret3
    exact ⟨rfl, Hb1.out⟩
  · have hm' : 4 ≤ (b.used : Int) := by omega
    have hmin : min 4 b.used = 4 := by omega
    rw [hmin, show ((4 : Nat) : Int) = 4 from rfl] at Hr
    clear hmin hm
    go_enter Tryd.func43, Tryd.ntmps43
    go_wp2_with fail
    rw [← hw0]
    clear hw0
    refine Hr.out.mono ?_
    rintro e w1 ⟨A, L, c, rfl, hb1, k4, hn⟩
    have Hb1 := Lib.hid hb1
    have Hn := Lib.hid hn
    clear hb1 hn k2 k3
    go_wp2_with fail
    refine Hn.out.mono ?_
    rintro e w2 ⟨rfl, rfl⟩
    go_wp2_with fail
    go_ret3
    exact ⟨rfl, Hb1.out⟩
end
end Go.Proofs.YtkjogkmdldplgaaDoor

/-
  The records that are read, in memory; what is done with each.
-/
namespace Go.Proofs.YtkjogkmdldplgaaDoor
open Go.RowKit

theorem info_rec : (Tryd.prog.info? 44).map (fun i => (i.zero, i.size, i.bytes)) = some (some (.agg #[.int .u64 0, .slice none 0 0]), 2, 32) := by kernel_rfl
/-- append(v, a record): not in a region that draws -/
theorem app_rec {w : World} {ops : Array Oper} {rest : List Oper} {o : Oper} {a : Act} {Q : Exit → Act → World → Prop} (hgd : o.guard = none) (s x : Operand)
    (ho : o.op = .call { callee := .builtin .append, args := #[s, x], argTypes := #[40, 40] })
    (base : Nat) (v : Value) (M : Nat) (xs : List Value) (hs : a.eval s = v) (hown : w.ownsRow base 44 2 v M xs)
    (g c : Nat) (u1 u2 : Value) (hx : a.eval x = .slice (some ⟨g, 0, none⟩) 1 c) (hc : w.cell? ⟨g, 0, none⟩ = some u1 ∧ w.cell? ⟨g, 1, none⟩ = some u2) (h1 : u1.oneCell' = true) (h2 : u2.oneCell' = true)
    (hlen : M + 1 ≤ 1099511627776) (hbase : base ≤ w.heap.size)
    (h : ∀ v' w', w'.ownsRow base 44 2 v' (M + 1) (xs ++ [u1, u2]) → w.grownBy w' v.ownBlock → (v'.ownBlock = v.ownBlock ∨ v'.ownBlock = some w.heap.size) → wpList Tryd.prog ops Q rest (a.put o.dst v') w') :
    wpList Tryd.prog ops Q (o :: rest) a w := by
  obtain ⟨i0, hi0, hz0, hz1, hz2⟩ := info_parts info_rec
  obtain ⟨v', w', hrun, r2, r3, _, r5⟩ := run_append_own_at (P := Tryd.prog) w base 40 o.type 44 i0 (.agg #[.int .u64 0, .slice none 0 0]) 2 32 Tryd.underlying40 hi0 hz0 hz1 hz2 rfl (by omega) v M xs hown ⟨g, 0, none⟩ 1 c [u1, u2]
    rfl (fun j u hu => by
      rw [add_flat, Nat.zero_add]
      match j with
      | 0 => simp at hu; subst hu; exact hc.1
      | 1 => simp at hu; subst hu; exact hc.2
      | j + 2 => simp at hu) (fun u hu => by
        rcases List.mem_cons.1 hu with rfl | hu
        · exact h1
        · rw [List.mem_singleton] at hu; subst hu; exact h2) (by simp only [maxLen]; omega) (by omega) hbase
  refine wpList_plain hgd fun K hK => ?_
  unfold Oper.wp execOp
  simp only [ho, resolve, invoke, builtin, Sem.run_bind, Sem.run_pure, Result.andThen_ok, List.map_toArray, List.map_cons, List.map_nil, hs, hx]
  rw [show (Builtin.append_ #[40, 40] o.type #[v, .slice (some ⟨g, 0, none⟩) 1 c]).run Tryd.prog w = .ok v' w' from hrun]
  exact hK _ _ (h v' w' r2 r3 r5)

/-- THE RECORDS rs, the first one's number being f, in a slice v of the call's own -/
def RecsAt (w : World) (lo : Nat) (v : Value) (f : Nat) (rs : List (List UInt8)) : Prop :=
  ∃ cs, w.ownsRow lo 44 2 v rs.length cs ∧ ∀ (k : Nat) r, rs[k]? = some r → ∃ x, cs[2 * k]? = some (.int .u64 ((f + k : Nat) : Int)) ∧ cs[2 * k + 1]? = some x ∧ Own w lo x r
/-- blocks of records and of bytes are as they were -/
def Rows2 (w w' : World) : Prop := ∀ (g : Nat) cur t z, w.heap[g]? = some (.cells cur t z) → (t = 44 ∨ t = 5) → w'.heap[g]? = w.heap[g]?
theorem Rows2.own {w w' : World} {lo : Nat} {v : Value} {l : List UInt8} (h : Rows2 w w') (ho : Own w lo v l) : Own w' lo v l := ho.move fun g hg => by
  rcases ho.2 with ⟨rfl, _⟩ | ⟨g', cap, cur, rfl, _, hgg, _⟩
  · cases hg
  · cases hg; exact h g' _ _ _ hgg (.inr rfl)
theorem Rows2.recs {w w' : World} {lo f : Nat} {v : Value} {rs : List (List UInt8)} (h : Rows2 w w') (hr : RecsAt w lo v f rs) : RecsAt w' lo v f rs := by
  obtain ⟨cs, h1, h2⟩ := hr
  refine ⟨cs, ⟨h1.1, ?_⟩, fun k r hk => ?_⟩
  · rcases h1.2 with q | ⟨g', cap, cur, hv, hb, hgg, rest⟩
    · exact .inl q
    · exact .inr ⟨g', cap, cur, hv, hb, (h g' _ _ _ hgg (.inl rfl)).trans hgg, rest⟩
  · obtain ⟨x, q1, q2, q3⟩ := h2 k r hk
    exact ⟨x, q1, q2, h.own q3⟩
theorem Rows2.below {w w' : World} (h : Below w.heap.size w w') : Rows2 w w' := fun g cur t z hg _ => h.block g (Array.getElem?_eq_some_iff.1 hg).1
theorem RecsAt.below {w w' : World} {lo f : Nat} {v : Value} {rs : List (List UInt8)} (h : RecsAt w lo v f rs) (hb : Below w.heap.size w w') : RecsAt w' lo v f rs := (Rows2.below hb).recs h
theorem RecsAt.nil (w : World) (lo f : Nat) : RecsAt w lo (.slice none 0 0) f [] := ⟨[], World.ownsRow_nil _ _ _ _, fun k r h => by simp at h⟩
theorem RecsAt.slice {w : World} {lo f : Nat} {v : Value} {rs : List (List UInt8)} (h : RecsAt w lo v f rs) : ∃ A c, v = .slice A rs.length c := by
  obtain ⟨cs, h1, _⟩ := h
  rcases h1.2 with ⟨rfl, h0⟩ | ⟨g, cap, cur, rfl, _⟩
  · exact ⟨none, 0, by rw [h0]⟩
  · exact ⟨_, _, rfl⟩
/-- one record more -/
theorem RecsAt.snoc {w w' : World} {lo f : Nat} {v v' x : Value} {rs : List (List UInt8)} {r : List UInt8} {cs : List Value} (h1 : w.ownsRow lo 44 2 v rs.length cs) (h2 : ∀ (k : Nat) r, rs[k]? = some r → ∃ x, cs[2 * k]? = some (.int .u64 ((f + k : Nat) : Int)) ∧ cs[2 * k + 1]? = some x ∧ Own w lo x r)
    (hx : Own w lo x r) (ho : w'.ownsRow lo 44 2 v' (rs.length + 1) (cs ++ [.int .u64 ((f + rs.length : Nat) : Int), x])) (hg : w.grownBy w' v.ownBlock) : RecsAt w' lo v' f (rs ++ [r]) := by
  have hown : ∀ y l, Own w lo y l → Own w' lo y l := fun y l hy => hy.move fun g hgy => by
    refine hg.block g (hy.lt g hgy).2 fun e => ?_
    rcases hy.2 with ⟨rfl, _⟩ | ⟨g1, cap1, cur1, rfl, _, hgg1, _⟩
    · cases hgy
    · cases hgy
      rcases h1.2 with ⟨rfl, _⟩ | ⟨g2, cap2, cur2, rfl, _, hgg2, _⟩
      · cases e
      · cases e
        rw [hgg1] at hgg2
        cases hgg2
  have hcl : cs.length = 2 * rs.length := by rw [h1.1, Nat.mul_comm]
  refine ⟨_, by rw [List.length_append]; exact ho, fun k r' hk => ?_⟩
  by_cases hlt : k < rs.length
  · rw [List.getElem?_append_left hlt] at hk
    obtain ⟨y, q1, q2, q3⟩ := h2 k r' hk
    exact ⟨y, by rw [List.getElem?_append_left (by omega)]; exact q1, by rw [List.getElem?_append_left (by omega)]; exact q2, hown _ _ q3⟩
  · rw [List.getElem?_append_right (by omega)] at hk
    have hk0 : k = rs.length := by
      have := (List.getElem?_eq_some_iff.1 hk).1
      simp at this
      omega
    subst hk0
    simp at hk
    subst hk
    refine ⟨x, ?_, ?_, hown _ _ hx⟩
    · rw [List.getElem?_append_right (by omega), hcl, Nat.sub_self]; rfl
    · rw [List.getElem?_append_right (by omega), hcl, show 2 * rs.length + 1 - 2 * rs.length = 1 by omega]; rfl

section
set_option maxRecDepth 20000
set_option maxHeartbeats 4000000
/-- nothing is done with a record that is passed by -/
theorem pass_any (a b c : Value) (w : World) : Calls Tryd.prog 23 #[a, b, c] w fun e w' => e = .returned .nilIface ∧ w = w' := by
  go_enter Tryd.func23, Tryd.ntmps23
  go_wp2_with fail
  go_ret
  exact ⟨rfl, rfl⟩
/-- a record is read, and told -/
theorem see_any (pw nv lb R c5 c7 lo f a : Nat) (P : Pow) (D : Dev) (O : Nat → Option Tag) (rs : List (List UInt8)) (r : List UInt8) (v : Value) (w : World) (h : SysAt w O pw P nv D) (hoff : P.off = false) (hl : LogC w lb nv R) (hR : R = D.mem.length - 57) (hR0 : 0 < R) (ha : a ≤ 1000000000) (hx : cyc D.mem R a r.length = r) (hrl : r.length ≤ 67108864)
    (h5 : w.cell? ⟨c5, 0, none⟩ = some (.pointer (some ⟨lb, 0, none⟩))) (h7 : Cells w c7 40 [v]) (hr : RecsAt w lo v f rs) (hlo : lo ≤ w.heap.size) (hrs : rs.length ≤ 1000000000) :
    Calls Tryd.prog 30 #[.int .u64 ((f + rs.length : Nat) : Int), .int .i64 (a : Int), .int .i64 (r.length : Int), .pointer (some ⟨c5, 0, none⟩), .pointer (some ⟨c7, 0, none⟩)] w fun e w' => e = .returned .nilIface ∧ ∃ v', Cells w' c7 40 [v'] ∧ RecsAt w' lo v' f (rs ++ [r]) ∧ Kept (fun x => x ≠ c7 ∧ v.ownBlock ≠ some x) w w' ∧ (∀ g, v'.ownBlock = some g → v.ownBlock = some g ∨ w.heap.size ≤ g) := by
  obtain ⟨Av, cv, rfl⟩ := hr.slice
  have Hrd := Lib.hid (lread_any pw nv lb R a r.length P D O w h hoff hl hR hR0 ha hrl)
  rw [hx] at Hrd
  have hc7 := h7.lt
  have Hfin : Hid (∀ w1 x, Own w1 w.heap.size x r → Below w.heap.size w w1 → w1.cell? ⟨c7, 0, none⟩ = some (.slice Av rs.length cv) ∧ ∃ cs, (w1.alloc (.cells #[.int .u64 ((f + rs.length : Nat) : Int), x] 44)).ownsRow lo 44 2 (Value.slice Av rs.length cv) rs.length cs ∧
      ∀ v' w2, w2.ownsRow lo 44 2 v' (rs.length + 1) (cs ++ [.int .u64 ((f + rs.length : Nat) : Int), x]) → (w1.alloc (.cells #[.int .u64 ((f + rs.length : Nat) : Int), x] 44)).grownBy w2 (Value.slice Av rs.length cv).ownBlock → (v'.ownBlock = (Value.slice Av rs.length cv).ownBlock ∨ v'.ownBlock = some (w1.alloc (.cells #[.int .u64 ((f + rs.length : Nat) : Int), x] 44)).heap.size) →
        (∃ A c, v' = .slice A (rs.length + 1) c) ∧ (∃ u, w2.cell? ⟨c7, 0, none⟩ = some u) ∧ w2.frozen? ⟨c7, 0, none⟩ = false ∧ ∃ v'', Cells (w2.setCell ⟨c7, 0, none⟩ v') c7 40 [v''] ∧ RecsAt (w2.setCell ⟨c7, 0, none⟩ v') lo v'' f (rs ++ [r]) ∧ Kept (fun x => x ≠ c7 ∧ (Value.slice Av rs.length cv).ownBlock ≠ some x) w (w2.setCell ⟨c7, 0, none⟩ v') ∧ (∀ g, v''.ownBlock = some g → (Value.slice Av rs.length cv).ownBlock = some g ∨ w.heap.size ≤ g)) := by
    intro w1 x hox hb1
    have hr1 := hr.below hb1
    have h71 : Cells w1 c7 40 [(Value.slice Av rs.length cv)] := h7.move (hb1.block c7 hc7)
    refine ⟨h71.cell rfl, ?_⟩
    have hbA : Below w1.heap.size w1 (w1.alloc (.cells #[.int .u64 ((f + rs.length : Nat) : Int), x] 44)) := (Below.refl _ w1).alloc (Nat.le_refl _) _
    obtain ⟨cs, q1, q2⟩ := hr1.below hbA
    refine ⟨cs, q1, fun v' w2 p1 p2 p3 => ?_⟩
    have hv7 : (Value.slice Av rs.length cv).ownBlock ≠ some c7 := fun e => by
      rcases q1.2 with ⟨hv, _⟩ | ⟨g, cap, cur, hv, _, hgg, _⟩
      · rw [hv] at e; cases e
      · rw [hv] at e; cases e
        have : Cells (w1.alloc (.cells #[.int .u64 ((f + rs.length : Nat) : Int), x] 44)) g 40 [(Value.slice Av rs.length cv)] := h71.alloc _
        unfold Cells at this
        rw [this] at hgg
        cases hgg
    have hlt : c7 < w1.heap.size := h71.lt
    have h72 : Cells w2 c7 40 [(Value.slice Av rs.length cv)] := (h71.alloc _).move (p2.block c7 (by simp; omega) (fun e => hv7 e.symm))
    have hrec := RecsAt.snoc (f := f) q1 q2 ((hox.wide hlo).alloc _) p1 p2
    have hsl := hrec.slice
    rw [List.length_append] at hsl
    refine ⟨hsl, ⟨(Value.slice Av rs.length cv), h72.cell rfl⟩, h72.frozen 0, v', h72.set 0 v', ?_, ?_, fun g hg => ?_⟩
    · refine Rows2.recs (fun g cur t z hg ht => ?_) hrec
      refine Below.heap_setCell _ _ _ _ (fun e => ?_)
      have e' : g = c7 := e
      subst e'
      unfold Cells at h72
      rw [h72] at hg
      cases hg
      rcases ht with ht | ht
      · cases ht
      · cases ht
    · have k1 : Kept (fun x => x ≠ c7 ∧ (Value.slice Av rs.length cv).ownBlock ≠ some x) w (w1.alloc (.cells #[.int .u64 ((f + rs.length : Nat) : Int), x] 44)) := ((Kept.refl _ w).below hb1).alloc _
      exact (k1.grown p2 (fun g e h => h.2 e)).setCell (fun h => h.1 rfl) _
    · rcases p3 with e | e
      · exact .inl (e ▸ hg)
      · rw [e] at hg; cases hg; right; simp; have := hb1.size; omega
  have Hrs : Hid (rs.length + 1 ≤ 1099511627776 ∧ lo ≤ w.heap.size) := ⟨by omega, hlo⟩
  generalize hF : f + rs.length = F at *
  clear h hl hr h7 hx hoff hR hR0 hlo hF
  go_enter Tryd.func30, Tryd.ntmps30
  go_wp2_with fail
  refine Hrd.out.mono ?_
  rintro e w1 ⟨x, rfl, hox, hb1⟩
  obtain ⟨k7, cs, hown, hnext⟩ := Hfin.out w1 x hox hb1
  obtain ⟨Ax, cx, rfl, _, _, _⟩ := hox.rb
  have Hown := Lib.hid hown
  have Hnext := Lib.hid hnext
  have Hsz : Hid (∀ o, lo ≤ (w1.alloc o).heap.size) := fun o => by have := Nat.le_trans Hrs.out.2 hb1.size; simp; omega
  clear hox hb1 hown hnext Hfin Hrd
  go_wp2_with (at_builtin; refine app_rec rfl (.tmp 18) (.tmp 22) rfl lo _ rs.length cs rfl Hown.out w1.heap.size 1 _ _ rfl ⟨(Cells.new w1 #[.int .u64 (F : Int), .slice Ax r.length cx] _).cell (i := 0) rfl, (Cells.new w1 #[.int .u64 (F : Int), .slice Ax r.length cx] _).cell (i := 1) rfl⟩ rfl rfl Hrs.out.1 (Hsz.out _) ?_; intro v9 w9 p1 p2 p3; obtain ⟨⟨A9, c9, rfl⟩, ⟨u9, hu9⟩, hf9, hpost⟩ := Hnext.out v9 w9 p1 p2 p3; have Hp := Lib.hid hpost; clear p1 p2 p3 hpost)
  go_ret
  exact ⟨rfl, Hp.out⟩
end
end Go.Proofs.YtkjogkmdldplgaaDoor

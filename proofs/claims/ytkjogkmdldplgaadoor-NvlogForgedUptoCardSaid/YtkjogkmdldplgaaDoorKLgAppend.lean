/-
  A record is appended.
-/
import Derived.Test.YtkjogkmdldplgaaDoorKLgAt
import Derived.Test.YtkjogkmdldplgaaDoorKLgWrite
import Derived.Test.YtkjogkmdldplgaaDoorLgWalk
import Derived.WalkMore
import Derived.StillTailTactics
import Derived.BigQuiet
import Derived.Deep.QuietTactic
namespace Go.Proofs.YtkjogkmdldplgaaDoor
open Go.RowKit

/-- behind the writing of the ring and the settling -/
theorem append_holds {m m' : List UInt8} {b : Bd} {rs : List (List UInt8)} {l : List UInt8} {t : Nat} (h : Holds m b rs) (hl : (l.length : Int) ≤ roomV (m.length - 57) b.used) (hnx : b.next ≤ 1000000000) (hw : Wrote m m' (m.length - 57) (b.at_ + b.used) (encR l)) :
    Holds (settled m' t (longerB b (encR l).length)) (longerB b (encR l).length) (rs ++ [l]) ∧ (settled m' t (longerB b (encR l).length)).length = m.length ∧ BdOk (longerB b (encR l).length) ∧ (encR l).length ≤ m.length - 57 ∧ byteAt m' 0 = byteAt m 0 := by
  have hlow := h.low
  have hhi := h.high
  have hus := h.used
  have hr : (l.length : Int) + (b.used : Int) + 4 ≤ ((m.length - 57 : Nat) : Int) := by
    unfold roomV at hl
    have : (0 : Int) ≤ (l.length : Int) := by omega
    omega
  have h4 : (numBytes l.length).length ≤ 4 := numBytes_len 3 l.length (by have h128 : 128 ^ 4 = 268435456 := (by decide); omega)
  have he : (encR l).length = (numBytes l.length).length + l.length := encR_length l
  have hcnt := h.cnt
  have hok : BdOk (longerB b (encR l).length) := ⟨by show b.first ≤ b.next + 1; omega, by show b.next + 1 ≤ _; omega, h.ok.at_, by show b.used + _ ≤ _; omega⟩
  have hsl := slotL_length (longerB b (encR l).length) (by have := hok.first; have := hok.next; omega) hok.next hok.at_ hok.used
  have hml : m'.length = m.length := hw.1
  refine ⟨?_, (settled_length m' t _ (by omega) hsl).trans hml, hok, by omega, hw.front 0 (by omega)⟩
  refine settled_holds (by omega) (by omega) hsl (by show b.next + 1 = b.first + (rs ++ [l]).length; rw [List.length_append, hcnt]; simp; omega) hok.next (by rw [hml]; exact h.at_) (by rw [hml]; show b.used + _ ≤ _; omega) ?_
  rw [hml]
  show cyc m' (m.length - 57) b.at_ (b.used + (encR l).length) = _
  rw [cyc_add, hw.read, hw.behind (by omega), h.ring, enc_snoc]

/-- the steps ahead of the writing of the ring -/
theorem append_start {w : World} {M : Nat → Prop} {pw nv lb N : Nat} {P : Pow} {b : Bd} {rs : List (List UInt8)} {A : Option Addr} {c : Nat} {l : List UInt8} (h : LG w M pw nv lb P N b rs) (hoff : P.off = false) (hr : RB w w.heap.size A l) (hA : l ≠ [] → ∀ ad, A = some ad → ¬ M ad.block) (hc : l.length ≤ c) (hl6 : l.length ≤ 65536) :
    ∃ O m, SysAt w O pw P nv ⟨m, [], 0⟩ ∧ O lb = none ∧ LogC w lb nv (N - 57) ∧ m.length = N ∧ Holds m b rs ∧ (∀ x, M x ↔ (O x ≠ none ∨ x = lb)) ∧
    Calls Tryd.prog 22 #[.pointer (some ⟨lb, 0, none⟩)] w fun e w1 => e = .returned (.agg #[.int .u64 (b.first : Int), .int .u64 (b.next : Int), .int .i64 (b.at_ : Int), .int .i64 (b.used : Int)]) ∧ Kept (fun x => x ≠ lb) w w1 ∧
      ∀ w2, w2 = w1.alloc (.cells #[.int .u64 (b.first : Int), .int .u64 (b.next : Int), .int .i64 (b.at_ : Int), .int .i64 (b.used : Int)] 62) → (BoxAt w2 w1.heap.size b ∧
        Calls Tryd.prog 21 #[.pointer (some ⟨lb, 0, none⟩), .agg #[.int .u64 (b.first : Int), .int .u64 (b.next : Int), .int .i64 (b.at_ : Int), .int .i64 (b.used : Int)]] w2 fun e w3 => e = .returned (.int .i64 (roomV (N - 57) b.used)) ∧ BoxAt w3 w1.heap.size b ∧
          ∀ w4, w4 = w3.alloc (.cells #[.slice A l.length c] 35) → Calls Tryd.prog 26 #[.slice none 0 0, .slice (some ⟨w3.heap.size, 0, none⟩) 1 1] w4 fun e w5 => ∃ A5 c5, e = .returned (.slice A5 (encR l).length c5) ∧ BoxAt w5 w1.heap.size b ∧ SysAt w5 O pw P nv ⟨m, [], 0⟩ ∧ LogC w5 lb nv (N - 57) ∧ RB w5 w5.heap.size A5 (encR l) ∧ (encR l).length ≤ c5 ∧ (∀ ad, A5 = some ad → O ad.block = none) ∧ Kept (fun x => x ≠ lb) w w5 ∧ w1.heap.size < w5.heap.size ∧ O w1.heap.size = none) := by
  obtain ⟨O, m, h1, h2, h3, h4, h5, h6⟩ := h
  refine ⟨O, m, h1, h2, h3, h4, h5, h6, ?_⟩
  refine (look_any pw nv lb (N - 57) P _ O b rs w h1 hoff h3 (by rw [← h4]) h5).mono ?_
  rintro e w1 ⟨rfl, k1, k2⟩
  refine ⟨rfl, k2, ?_⟩
  rintro w2 rfl
  have hfree : O w1.heap.size = none := by
    cases hO : O w1.heap.size with
    | none => rfl
    | some t => have := h1.fresh w1.heap.size (by rw [hO]; simp); have := k2.size; omega
  have s1 : SysAt w1 O pw P nv ⟨m, [], 0⟩ := h1.kept (k2.mono fun x _ q e => q (e ▸ h2))
  have hb2 : Below w1.heap.size w1 (w1.alloc (.cells #[.int .u64 (b.first : Int), .int .u64 (b.next : Int), .int .i64 (b.at_ : Int), .int .i64 (b.used : Int)] 62)) := (Below.refl _ w1).alloc (Nat.le_refl _) _
  have hbox : BoxAt (w1.alloc (.cells #[.int .u64 (b.first : Int), .int .u64 (b.next : Int), .int .i64 (b.at_ : Int), .int .i64 (b.used : Int)] 62)) w1.heap.size b := Cells.new w1 #[.int .u64 (b.first : Int), .int .u64 (b.next : Int), .int .i64 (b.at_ : Int), .int .i64 (b.used : Int)] _
  have l2 := k1.logC.move (hb2.block lb k1.logC.lt)
  refine ⟨hbox, (room_any lb nv (N - 57) b _ l2 (by have := h5.high; omega) h5.ok.used).mono ?_⟩
  rintro e w3 ⟨rfl, hb3⟩
  refine ⟨rfl, hbox.move (hb3.block _ hbox.lt), ?_⟩
  rintro w4 rfl
  have hb13 : Below w1.heap.size w1 w3 := hb2.trans (hb3.mono hb2.size)
  have hr1 : RB w1 w1.heap.size A l := (hr.kept k2 (fun hn ad e q => hA hn ad e ((h6 _).2 (.inr q))) (Nat.le_refl _)).wide k2.size
  have hr3 : RB w3 w3.heap.size A l := (hr1.below hb13).wide hb13.size
  have hrr := RBB.one w3 c 35 hr3 (Nat.le_refl _) hc
  have hb4 : Below w3.heap.size w3 (w3.alloc (.cells #[.slice A l.length c] 35)) := (Below.refl _ w3).alloc (Nat.le_refl _) _
  have := bytes_any none 0 [] (some ⟨w3.heap.size, 0, none⟩) 1 [l] (w3.alloc (.cells #[.slice A l.length c] 35)) (RB.nil _ _ _) (by rw [show (w3.alloc (.cells #[.slice A l.length c] 35)).heap.size = w3.heap.size + 1 by simp]; exact hrr) (by simp) (by simpa using hl6) (by simp)
  rw [show [l].flatten = l by simp, List.nil_append] at this
  refine this.mono ?_
  rintro e w5 ⟨v, rfl, ho5, hb5⟩
  obtain ⟨A5, c5, rfl, p1, p2, p3⟩ := ho5.rb
  have hb15 : Below w1.heap.size w1 w5 := hb13.trans ((hb4.trans (hb5.mono hb4.size)).mono hb13.size)
  have hbxlt : w1.heap.size < w3.heap.size := (hbox.move (hb3.block _ hbox.lt)).lt
  refine ⟨A5, c5, rfl, (hbox.move (hb3.block _ hbox.lt)).move ((hb4.trans (hb5.mono hb4.size)).block _ hbxlt), s1.below hb15, k1.logC.move (hb15.block lb k1.logC.lt), p2, p1, fun ad e => ?_, k2.below hb15, Nat.lt_of_lt_of_le hbxlt (Nat.le_trans hb4.size hb5.size), hfree⟩
  have h9 := ho5.lt ad.block (by rw [e]; rfl)
  cases hO : O ad.block with
  | none => rfl
  | some t =>
    have := h1.fresh ad.block (by rw [hO]; simp)
    have := k2.size
    have := hb13.size
    have := hb4.size
    omega
section
set_option maxRecDepth 20000
set_option maxHeartbeats 4000000
theorem LG.append {w : World} {M : Nat → Prop} {pw nv lb N n : Nat} {b : Bd} {rs : List (List UInt8)} {A : Option Addr} {c : Nat} {l : List UInt8} (h : LG w M pw nv lb (Pk n) N b rs) (hr : RB w w.heap.size A l) (hA : l ≠ [] → ∀ ad, A = some ad → ¬ M ad.block) (hc : l.length ≤ c) (hl6 : l.length ≤ 65536) (hl : (l.length : Int) ≤ roomV (N - 57) b.used) (hnx : b.next ≤ 1000000000) (hn : n + l.length ≤ 900000) :
    Calls Tryd.prog 12 #[.pointer (some ⟨lb, 0, none⟩), .slice A l.length c] w fun e w' => e = .returned (.tuple #[.int .u64 (b.next : Int), .int .i64 0]) ∧ ∃ M' n', n' ≤ n + l.length + 8 ∧ LG w' M' pw nv lb (Pk n') N (longerB b (encR l).length) (rs ++ [l]) ∧ ExtM w M w' M' := by
  obtain ⟨O, m, h1, h2, h3, h4, h5, h6, hlook⟩ := append_start h rfl hr hA hc hl6
  have Hl := Lib.hid hlook
  have Hw : Hid (∀ w5 A5 c5 g, BoxAt w5 g b → SysAt w5 O pw (Pk n) nv ⟨m, [], 0⟩ → LogC w5 lb nv (N - 57) → RB w5 w5.heap.size A5 (encR l) → (encR l).length ≤ c5 → (∀ ad, A5 = some ad → O ad.block = none) → Kept (fun x => x ≠ lb) w w5 → O g = none →
      Calls Tryd.prog 27 #[.pointer (some ⟨lb, 0, none⟩), .int .i64 ((b.at_ : Int) + (b.used : Int)), .slice A5 (encR l).length c5] w5 fun e w6 => e = .returned .nilIface ∧ BoxAt w6 g b ∧
        Calls Tryd.prog 28 #[.agg #[.int .u64 (b.first : Int), .int .u64 (b.next : Int), .int .i64 (b.at_ : Int), .int .i64 (b.used : Int)], .int .i64 ((encR l).length : Int)] w6 fun e w7 => e = .returned (.agg #[.int .u64 ((longerB b (encR l).length).first : Int), .int .u64 ((longerB b (encR l).length).next : Int), .int .i64 ((longerB b (encR l).length).at_ : Int), .int .i64 ((longerB b (encR l).length).used : Int)]) ∧
          Calls Tryd.prog 20 #[.pointer (some ⟨lb, 0, none⟩), .agg #[.int .u64 ((longerB b (encR l).length).first : Int), .int .u64 ((longerB b (encR l).length).next : Int), .int .i64 ((longerB b (encR l).length).at_ : Int), .int .i64 ((longerB b (encR l).length).used : Int)]] w7 fun e w8 => e = .returned .nilIface ∧ w8.cell? ⟨g, 1, none⟩ = some (.int .u64 (b.next : Int)) ∧
            ∃ M' n', n' ≤ n + l.length + 8 ∧ LG w8 M' pw nv lb (Pk n') N (longerB b (encR l).length) (rs ++ [l]) ∧ ExtM w M w8 M') := by
    intro w5 A5 c5 g x1 x2 x3 x4 x5 x6 x7 x8
    have hnu : (numBytes l.length).length ≤ 4 := numBytes_len 3 l.length (by have h128 : 128 ^ 4 = 268435456 := (by decide); omega)
    have hel : (encR l).length = (numBytes l.length).length + l.length := encR_length l
    have hlR : (encR l).length ≤ N - 57 := by
      unfold roomV at hl
      have := h5.low
      omega
    have hus := h5.used
    have hat := h5.at_
    have hhi := h5.high
    have hlb5 : lb < w5.heap.size := x3.lt
    have e1 : (b.at_ : Int) + (b.used : Int) = ((b.at_ + b.used : Nat) : Int) := by omega
    rw [e1]
    refine (lwrite_any pw nv lb (N - 57) n (b.at_ + b.used) ⟨m, [], 0⟩ O A5 c5 (encR l) w5 x2 x3 h2 x4 (fun _ ad e => x6 ad e) x5 (encR_pos l) hlR (by rw [← h4]) h5.low (by omega) rfl (by omega)).mono ?_
    rintro e w6 ⟨he, O6, D6, n6, s6, x6', hw, hp, hn6⟩
    have hbx6 : BoxAt w6 g b := x1.move (x6'.1.block g x1.lt x8)
    refine ⟨he, hbx6, ?_⟩
    have hw' : Wrote m D6.mem (m.length - 57) (b.at_ + b.used) (encR l) := by rw [h4]; exact hw
    obtain ⟨t, ht, hb0⟩ := settle_holds_of h5
    obtain ⟨z1, z2, z3, z4, z5⟩ := append_holds (t := t) h5 (by rw [h4]; exact hl) hnx hw'
    refine (longer_any b (encR l).length w6 (by omega) h5.ok).mono ?_
    rintro e w7 ⟨rfl, hb7⟩
    refine ⟨rfl, ?_⟩
    have l6 : LogC w6 lb nv (N - 57) := x3.move (x6'.1.block lb x3.lt h2)
    have l7 := l6.move (hb7.block lb l6.lt)
    have ho6 : O6 lb = none := (x6'.2 lb x3.lt).trans h2
    refine (settle_log pw nv lb (N - 57) n6 t D6 O6 (longerB b (encR l).length) w7 (s6.below hb7) l7 ho6 ht (by rw [z5]; exact hb0) z3 (by rw [hw'.1]; exact h5.low) (by rw [hp]; omega) (by omega)).mono ?_
    rintro e w8 ⟨he, O8, t1, t2, t3⟩
    have hgl : g ≠ lb := fun e => by
      subst e
      obtain ⟨_, _, _, _, q⟩ := x3
      have := (x1.type q).1
      revert this
      decide
    have hbx7 : BoxAt w7 g b := hbx6.move (hb7.block g hbx6.lt)
    have ho7 : O6 g = none := (x6'.2 g x1.lt).trans x8
    have hbx8 : BoxAt w8 g b := hbx7.move (t2.1.block g hbx7.lt ⟨ho7, hgl⟩)
    refine ⟨he, hbx8.four.2.1, ?_⟩
    have kx : ExtL lb w O w5 O := ⟨x7.mono fun x _ q => q.2, fun _ _ => rfl⟩
    have kx2 : ExtL lb w O w8 O8 := kx.trans ((x6'.toL).trans (ExtL.trans ⟨Below.kept hb7 _, fun _ _ => rfl⟩ t2))
    obtain ⟨M', y1, y2⟩ := LG.of_ext h3 h6 h2 kx2 t1 t3.logC (z2.trans h4) z1
    exact ⟨M', n6 + 4, by omega, y1, y2⟩
  have hlen : (l.length : Int) ≤ 65536 := by omega
  have hrm : (l.length : Int) ≤ roomV (N - 57) b.used := hl
  have hwa : (b.at_ : Int) ≤ 67108864 := by have := h5.ok.at_; omega
  have hwu : (b.used : Int) ≤ 67108864 := by have := h5.ok.used; omega
  generalize roomV (N - 57) b.used = rm at *
  generalize longerB b (encR l).length = b2 at *
  generalize (encR l).length = el at *
  generalize l.length = ll at *
  clear h h1 h2 h3 h4 h5 h6 hlook hr hA hc hl6 hl hnx
  go_enter Tryd.func12, Tryd.ntmps12
  go_wp2_with fail
  refine Hl.out.mono ?_
  rintro e w1 ⟨rfl, _, hq⟩
  obtain ⟨hbx, hroom⟩ := hq _ rfl
  obtain ⟨c0, c1, c2, c3⟩ := hbx.four
  have Hroom := Lib.hid hroom
  clear hq hbx hroom Hl
  go_wp2_with fail
  refine Hroom.out.mono ?_
  rintro e w3 ⟨rfl, hbx3, hbytes⟩
  have Hby := Lib.hid (hbytes _ rfl)
  clear hbytes hbx3 Hroom c0 c1 c2 c3
  go_wp2_with fail
  refine Hby.out.mono ?_
  rintro e w5 ⟨A5, c5, rfl, x1, x2, x3, x4, x5, x6, x7, x8, x9⟩
  have Hw5 := Lib.hid (Hw.out w5 A5 c5 _ x1 x2 x3 x4 x5 x6 x7 x9)
  obtain ⟨c0, c1, c2, c3⟩ := x1.four
  clear x1 x2 x3 x4 x5 x6 x7 x8 x9 Hby Hw
  go_wp2_with fail
  refine Hw5.out.mono ?_
  rintro e w6 ⟨rfl, hbx6, hlg⟩
  have Hlg := Lib.hid hlg
  obtain ⟨d0, d1, d2, d3⟩ := hbx6.four
  clear hlg hbx6 Hw5 c0 c1 c2 c3
  go_wp2_with fail
  refine Hlg.out.mono ?_
  rintro e w7 ⟨rfl, hse⟩
  have Hse := Lib.hid hse
  clear hse Hlg d0 d1 d2 d3
  go_wp2_with fail
  refine Hse.out.mono ?_
  rintro e w8 ⟨rfl, cn, hq8⟩
  have Hq := Lib.hid hq8
  clear hq8 Hse
  go_wp2_with fail
  go_ret2
  exact ⟨rfl, Hq.out⟩
end
end Go.Proofs.YtkjogkmdldplgaaDoor

/-
  The ring is gone round, each record being told (Open).
-/
namespace Go.Proofs.YtkjogkmdldplgaaDoor
open Go.RowKit

theorem Rows2.of_kept {w w' : World} {g : Nat} {t : TypeId} {cs : List Value} (hk : Kept (fun x => x ≠ g) w w') (hc : Cells w g t cs) (h1 : t ≠ 44) (h2 : t ≠ 5) : Rows2 w w' := fun x cur t' z hx ht => hk.block x (Array.getElem?_eq_some_iff.1 hx).1 (fun e => by
  subst e
  unfold Cells at hc
  rw [hc] at hx
  cases hx
  rcases ht with e | e
  · exact h1 e
  · exact h2 e)
theorem enc_len : ∀ rs : List (List UInt8), rs.length ≤ (enc rs).length
  | [] => Nat.le_refl _
  | r :: rs => by rw [enc_cons, List.length_append, List.length_cons]; have := enc_len rs; have := encR_pos r; omega
/-- what is told so far -/
def RelO (w wr : World) (c7 lo f : Nat) (rs : List (List UInt8)) (j : Nat) : Prop := ∃ v, Cells wr c7 40 [v] ∧ RecsAt wr lo v f (rs.take j) ∧ ∀ g, v.ownBlock = some g → w.heap.size + 2 ≤ g
theorem RelO.set {w wr W : World} {c7 lo f g j : Nat} {rs : List (List UInt8)} {cs : List Value} (h : RelO w wr c7 lo f rs j) (hk : Kept (fun x => x ≠ g) wr W) (hc : Cells wr g 62 cs) (hg : c7 ≠ g) : RelO w W c7 lo f rs j := by
  obtain ⟨v, h1, h2, h3⟩ := h
  exact ⟨v, h1.move (hk.block c7 h1.lt hg), (Rows2.of_kept hk hc (by decide) (by decide)).recs h2, h3⟩

section
set_option maxRecDepth 20000
set_option maxHeartbeats 8000000
theorem walk_see (pw nv lb R up c5 c7 lo : Nat) (P : Pow) (D : Dev) (O : Nat → Option Tag) (b : Bd) (rs : List (List UInt8)) (w : World) (h : SysAt w O pw P nv D) (hoff : P.off = false) (hl : LogC w lb nv R) (hR : R = D.mem.length - 57) (hR0 : 0 < R) (hi : InRing D.mem R b rs) (hup : up ≤ 1099511627776)
    (h5 : w.cell? ⟨c5, 0, none⟩ = some (.pointer (some ⟨lb, 0, none⟩))) (h7 : Cells w c7 40 [.slice none 0 0]) (ho7 : O c7 = none) (hl7 : lb ≠ c7) (h57 : c5 ≠ c7) (hlo : lo ≤ w.heap.size) :
    Calls Tryd.prog 24 #[.pointer (some ⟨lb, 0, none⟩), bdV b, .int .u64 (up : Int), .func (.func 30) #[] #[.pointer (some ⟨c5, 0, none⟩), .pointer (some ⟨c7, 0, none⟩)]] w fun e w' => ∃ j, j ≤ rs.length ∧ (j = rs.length ∨ up < b.first + j) ∧ (∀ i, i < j → b.first + i ≤ up) ∧ e = .returned (.tuple #[bdV (advB b R (rs.take j)), .nilIface]) ∧ RelO w w' c7 lo b.first rs j ∧ Kept (fun x => x ≠ c7) w w' := by
  have hhi := h.ok.high
  have hR6 : R ≤ 67108864 := by omega
  have Hst : Hid (WalkSt w ((w.alloc (.cells #[.int .u64 (b.first : Int), .int .u64 (b.next : Int), .int .i64 (b.at_ : Int), .int .i64 (b.used : Int)] 62)).alloc (.cells #[.int .u64 0, .int .u64 0, .int .i64 0, .int .i64 0] 62)) (fun x => x ≠ c7) D.mem R up b rs 0) := by
    refine ⟨Nat.zero_le _, (Cells.new w #[.int .u64 (b.first : Int), .int .u64 (b.next : Int), .int .i64 (b.at_ : Int), .int .i64 (b.used : Int)] _).alloc _, ?_, hi, rfl, rfl, ((Kept.refl _ w).alloc _).alloc _, fun i h => by omega⟩
    have := Cells.new (w.alloc (.cells #[.int .u64 (b.first : Int), .int .u64 (b.next : Int), .int .i64 (b.at_ : Int), .int .i64 (b.used : Int)] 62)) #[.int .u64 0, .int .u64 0, .int .i64 0, .int .i64 0] 62
    simp only [World.size_alloc] at this
    exact this
  have Hsys : Hid (∀ W, Kept (fun x => x ≠ c7) w W → SysAt W O pw P nv D ∧ LogC W lb nv R ∧ W.cell? ⟨c5, 0, none⟩ = some (.pointer (some ⟨lb, 0, none⟩))) := fun W hk => ⟨h.kept (hk.mono fun x _ hx e => hx (e ▸ ho7)), hl.move (hk.block lb hl.lt hl7), (World.cell?_of_block (w := w) (hk.block c5 (World.block_lt_of_cell? w ⟨c5, 0, none⟩ h5) h57)).trans h5⟩
  have Hfr : Hid (∀ W (b' : Bd) (r : List UInt8) (X : List (List UInt8)), Kept (fun x => x ≠ c7) w W → InRing D.mem R b' (r :: X) → Calls Tryd.prog 43 #[.pointer (some ⟨lb, 0, none⟩), bdV b'] W fun e w' => e = .returned (.tuple #[.int .i64 ((numBytes r.length).length : Int), .int .i64 (r.length : Int), .nilIface]) ∧ Below W.heap.size W w') := by
    intro W b' r X hk hi'
    obtain ⟨s1, s2, _⟩ := Hsys.out W hk
    exact front_any pw nv lb R P D O b' r (enc X) W s1 hoff s2 hR hR0 (by have := hi'.at_; omega) hi'.used hi'.front.1
  have h7lt : c7 < w.heap.size := h7.lt
  have Hre : Hid (RelO w ((w.alloc (.cells #[.int .u64 (b.first : Int), .int .u64 (b.next : Int), .int .i64 (b.at_ : Int), .int .i64 (b.used : Int)] 62)).alloc (.cells #[.int .u64 0, .int .u64 0, .int .i64 0, .int .i64 0] 62)) c7 lo b.first rs 0) := ⟨_, (h7.alloc _).alloc _, RecsAt.nil _ _ _, fun g hg => by cases hg⟩
  have Hsee : Hid (∀ w1 v j a, Kept (fun x => x ≠ c7) w w1 → Cells w1 c7 40 [v] → RecsAt w1 lo v b.first (rs.take j) → (hj : j < rs.length) → a ≤ 1000000000 → cyc D.mem R a rs[j].length = rs[j] → rs[j].length ≤ 67108864 →
      Calls Tryd.prog 30 #[.int .u64 ((b.first + j : Nat) : Int), .int .i64 (a : Int), .int .i64 (rs[j].length : Int), .pointer (some ⟨c5, 0, none⟩), .pointer (some ⟨c7, 0, none⟩)] w1 fun e w2 => e = .returned .nilIface ∧ ∃ v', Cells w2 c7 40 [v'] ∧ RecsAt w2 lo v' b.first (rs.take (j + 1)) ∧ Kept (fun x => x ≠ c7 ∧ v.ownBlock ≠ some x) w1 w2 ∧ (∀ g, v'.ownBlock = some g → v.ownBlock = some g ∨ w1.heap.size ≤ g)) := by
    intro w1 v j a hk hc hr hj ha hx hrl
    obtain ⟨s1, s2, s3⟩ := Hsys.out w1 hk
    have htl : (rs.take j).length = j := by simp; omega
    have := see_any pw nv lb R c5 c7 lo b.first a P D O (rs.take j) rs[j] v w1 s1 hoff s2 hR hR0 ha hx hrl s3 hc hr (Nat.le_trans hlo hk.size) (by rw [htl]; have := hi.used_eq; have := hi.used; have : rs.length ≤ (enc rs).length := enc_len rs; omega)
    rw [htl, ← List.take_succ_eq_append_getElem hj] at this
    exact this
  have Hn := Lib.hid (And.intro hR6 hR0)
  have hup' : (up : Int) ≤ 1099511627776 := by omega
  clear h hl hi hoff hR hhi hR6 hR0 hup h5 h7 ho7 hl7 h57 hlo
  unfold bdV
  go_enter Tryd.func24, Tryd.ntmps24
  go_wp2_with fail
  apply wp_scope_straight
  go_wp2_with fail
  apply wp_label
  go_wp2_with fail
  go_loopw [13] (fun _ wr => ∃ j, Hid (WalkSt w wr (fun x => x ≠ c7) D.mem R up b rs j) ∧ Hid (RelO w wr c7 lo b.first rs j)) (fun _ wr => b.next - boxFirst wr w.heap.size)
  case atStart => exact ⟨0, Hst.out, Hre.out⟩
  case round =>
    obtain ⟨j, hst, hre⟩ := hrel
    obtain ⟨b', hb'⟩ : ∃ b', b' = advB b R (rs.take j) := ⟨_, rfl⟩
    have hbox := hst.out.box
    have hinr := hst.out.inr
    have hok := hinr.ok Hn.out.1
    have hfst := hst.out.first
    rw [← hb'] at hbox hinr hok hfst
    have hout := hst.out.out
    obtain ⟨c0, c1, c2, c3⟩ := BoxAt.four hbox
    have hle := hst.out.le
    have hcnt := hinr.cnt
    rw [List.length_drop] at hcnt
    have Hb' : Hid (b' = advB b R (rs.take j)) := hb'
    clear hb'
    by_cases hj : j < rs.length
    · have hne : ((b'.first : Int) == (b'.next : Int)) = false := by simp; omega
      have hN := hok.next
      by_cases hpu : b'.first ≤ up
      · have hpu' : (b'.first : Int) ≤ (up : Int) := by omega
        have hpj : b.first + j ≤ up := by omega
        have hinr2 := hinr
        rw [List.drop_eq_getElem_cons hj] at hinr2
        obtain ⟨r1, r2, r3⟩ := hinr2.front
        have Hfr1 : Hid (Calls Tryd.prog 43 #[.pointer (some ⟨lb, 0, none⟩), .agg #[.int .u64 (b'.first : Int), .int .u64 (b'.next : Int), .int .i64 (b'.at_ : Int), .int .i64 (b'.used : Int)]] wr fun e w' => e = .returned (.tuple #[.int .i64 ((numBytes rs[j].length).length : Int), .int .i64 (rs[j].length : Int), .nilIface]) ∧ Below wr.heap.size wr w') := Hfr.out wr b' rs[j] _ hst.out.kept hinr2
        have Hnx : Hid (∀ w1, Below wr.heap.size wr w1 → Cells w1 w.heap.size 62 (bdL b') ∧ Calls Tryd.prog 30 #[.int .u64 (b'.first : Int), .int .i64 ((b'.at_ : Int) + ((numBytes rs[j].length).length : Int)), .int .i64 (rs[j].length : Int), .pointer (some ⟨c5, 0, none⟩), .pointer (some ⟨c7, 0, none⟩)] w1 fun e w2 => e = .returned .nilIface ∧
            Cells w2 w.heap.size 62 (bdL b') ∧ w2.heap[w.heap.size + 1]? = wr.heap[w.heap.size + 1]? ∧ LogC w2 lb nv R ∧ Kept (fun x => x ≠ c7) w w2 ∧ RelO w w2 c7 lo b.first rs (j + 1)) := fun w1 hb1 => by
          have hk := hst.out.kept.below hb1
          obtain ⟨v, q1, q2, q3⟩ := hre.out
          have q1' : Cells w1 c7 40 [v] := q1.move (hb1.block c7 q1.lt)
          refine ⟨hbox.move (hb1.block _ hbox.lt), ?_⟩
          have hsee := Hsee.out w1 v j (b'.at_ + (numBytes rs[j].length).length) hk q1' (q2.below hb1) hj (by have := hok.at_; have := hok.used; omega) r2 (by have := hok.used; omega)
          rw [← hfst, show ((b'.at_ + (numBytes rs[j].length).length : Nat) : Int) = (b'.at_ : Int) + ((numBytes rs[j].length).length : Int) by omega] at hsee
          refine hsee.mono ?_
          rintro e w2 ⟨he, v', p1, p2, p3, p4⟩
          have hne1 : w.heap.size ≠ c7 ∧ v.ownBlock ≠ some w.heap.size := ⟨by omega, fun e => by have := q3 _ e; omega⟩
          have hne2 : w.heap.size + 1 ≠ c7 ∧ v.ownBlock ≠ some (w.heap.size + 1) := ⟨by omega, fun e => by have := q3 _ e; omega⟩
          have hk2 : Kept (fun x => x ≠ c7) w w2 := ⟨p3.os.trans hk.os, p3.tape.trans hk.tape, p3.output.trans hk.output, Nat.le_trans hk.size p3.size, fun x hx hn => (p3.block x (Nat.lt_of_lt_of_le hx hk.size) ⟨hn, fun e => by have := q3 _ e; omega⟩).trans (hk.block x hx hn)⟩
          refine ⟨he, hbox.move ((p3.block _ (Nat.lt_of_lt_of_le hbox.lt hb1.size) hne1).trans (hb1.block _ hbox.lt)), (p3.block _ (Nat.lt_of_lt_of_le hout.lt hb1.size) hne2).trans (hb1.block _ hout.lt), (Hsys.out w2 hk2).2.1, hk2, v', p1, p2, fun g hg => ?_⟩
          rcases p4 g hg with e | e
          · exact q3 g e
          · have := hout.lt; have := hb1.size; omega
        have Hsh : Hid (∀ w1, Cells w1 w.heap.size 62 (bdL b') → w1.heap[w.heap.size + 1]? = wr.heap[w.heap.size + 1]? → Kept (fun x => x ≠ c7) w w1 → RelO w w1 c7 lo b.first rs (j + 1) → Calls Tryd.prog 44 #[.agg #[.int .u64 (b'.first : Int), .int .u64 (b'.next : Int), .int .i64 (b'.at_ : Int), .int .i64 (b'.used : Int)], .int .i64 (((numBytes rs[j].length).length : Int) + (rs[j].length : Int)), .int .i64 (R : Int)] w1 fun e w2 => e = .returned (.agg #[.int .u64 ((shorterB b' (encR rs[j]).length R).first : Int), .int .u64 ((shorterB b' (encR rs[j]).length R).next : Int), .int .i64 ((shorterB b' (encR rs[j]).length R).at_ : Int), .int .i64 ((shorterB b' (encR rs[j]).length R).used : Int)]) ∧ Cells w2 w.heap.size 62 (bdL b') ∧
            ∀ W, W = (((w2.setCell ⟨w.heap.size, 0, none⟩ (.int .u64 ((shorterB b' (encR rs[j]).length R).first : Int))).setCell ⟨w.heap.size, 1, none⟩ (.int .u64 ((shorterB b' (encR rs[j]).length R).next : Int))).setCell ⟨w.heap.size, 2, none⟩ (.int .i64 ((shorterB b' (encR rs[j]).length R).at_ : Int))).setCell ⟨w.heap.size, 3, none⟩ (.int .i64 ((shorterB b' (encR rs[j]).length R).used : Int)) → WalkSt w W (fun x => x ≠ c7) D.mem R up b rs (j + 1) ∧ RelO w W c7 lo b.first rs (j + 1) ∧ b.next - boxFirst W w.heap.size < b.next - boxFirst wr w.heap.size) := by
          intro w1 hbx ho1 hk1 hre1
          have he : (((numBytes rs[j].length).length : Int) + (rs[j].length : Int)) = ((encR rs[j]).length : Int) := by rw [encR_length]; omega
          rw [he]
          refine (shorter_any b' (encR rs[j]).length R w1 (by rw [encR_length]; omega) hok Hn.out.1 Hn.out.2).mono ?_
          rintro e w2 ⟨rfl, hb2⟩
          have hc2 : Cells w2 w.heap.size 62 (bdL b') := hbx.move (hb2.block _ hbx.lt)
          have hre2 : RelO w w2 c7 lo b.first rs (j + 1) := by
            obtain ⟨v, q1, q2, q3⟩ := hre1
            exact ⟨v, q1.move (hb2.block c7 q1.lt), q2.below hb2, q3⟩
          refine ⟨rfl, hc2, ?_⟩
          rintro W rfl
          have hlt1 : w.heap.size + 1 < w1.heap.size := by
            have h9 : w1.heap[w.heap.size + 1]? = _ := ho1.trans hout
            exact (Array.getElem?_eq_some_iff.1 h9).1
          have hcW := four_set hc2 rfl (shorterB b' (encR rs[j]).length R)
          have hkW : Kept (fun x => x ≠ w.heap.size) w2 ((((w2.setCell ⟨w.heap.size, 0, none⟩ (.int .u64 ((shorterB b' (encR rs[j]).length R).first : Int))).setCell ⟨w.heap.size, 1, none⟩ (.int .u64 ((shorterB b' (encR rs[j]).length R).next : Int))).setCell ⟨w.heap.size, 2, none⟩ (.int .i64 ((shorterB b' (encR rs[j]).length R).at_ : Int))).setCell ⟨w.heap.size, 3, none⟩ (.int .i64 ((shorterB b' (encR rs[j]).length R).used : Int))) := ((((Kept.refl _ w2).setCell (fun h => h rfl) _).setCell (fun h => h rfl) _).setCell (fun h => h rfl) _).setCell (fun h => h rfl) _
          have hk2 : Kept (fun x => x ≠ c7) w w2 := hk1.below hb2
          refine ⟨hst.out.step hj hpj ⟨hkW.os.trans hk2.os, hkW.tape.trans hk2.tape, hkW.output.trans hk2.output, Nat.le_trans hk2.size hkW.size, fun x hx hn => (hkW.block x (Nat.lt_of_lt_of_le hx hk2.size) (by omega)).trans (hk2.block x hx hn)⟩ (by rw [← Hb'.out]; exact hcW) ((hkW.block _ (Nat.lt_of_lt_of_le hlt1 hb2.size) (by omega)).trans ((hb2.block _ hlt1).trans ho1)), hre2.set hkW hc2 (by omega), ?_⟩
          have z1 := (BoxAt.four (b := shorterB b' (encR rs[j]).length R) hcW).1
          have z2 := (BoxAt.four (b := b') hbox).1
          unfold boxFirst
          rw [z1, z2]
          have z3 := hst.out.next
          rw [← Hb'.out] at z3
          show b.next - ((shorterB b' (encR rs[j]).length R).first : Int).toNat < b.next - (b'.first : Int).toNat
          show b.next - ((b'.first + 1 : Nat) : Int).toNat < _
          omega
        have hr3 : ((numBytes rs[j].length).length : Int) + (rs[j].length : Int) ≤ 67108864 := by have := hok.used; omega
        have hat : (b'.at_ : Int) ≤ 67108864 := by have := hok.at_; omega
        clear hle hcnt r1 r2 r3 hinr2 hinr hok hfst hout hN hst hpj hpu hbox hre Hsee
        generalize hnl : (numBytes rs[j].length).length = nl at *
        generalize hrl : rs[j].length = rl at *
        generalize shorterB b' (encR rs[j]).length R = b2 at *
        clear hnl hrl
        go_wp2_with fail
        refine Hfr1.out.mono ?_
        rintro e w1 ⟨rfl, hb1⟩
        obtain ⟨hbx1, hsee1⟩ := Hnx.out w1 hb1
        obtain ⟨d0, d1, d2, d3⟩ := BoxAt.four hbx1
        have Hsee1 := Lib.hid hsee1
        clear hb1 hbx1 hsee1 c0 c1 c2 c3
        go_wp2_with fail
        refine Hsee1.out.mono ?_
        rintro e w2 ⟨rfl, hbx2, ho2, hlc2, hk2, hre2⟩
        have Hsh1 := Lib.hid (Hsh.out w2.drew hbx2 ho2 (hk2.drewN 1) (by obtain ⟨v, q1, q2, q3⟩ := hre2; exact ⟨v, q1, q2, q3⟩))
        obtain ⟨d0, d1, d2, d3⟩ := BoxAt.four hbx2
        have l1 := hlc2.cell1
        clear hbx2 ho2 hlc2 hk2 hre2 Hsee1
        go_wp2_with fail
        refine wp_region_still_tail 8 (by kernel_rfl) (by kernel_rfl) ?_
        simp only [List.take_succ_cons, List.take_zero, List.drop_succ_cons, List.drop_zero]
        repeat still_step
        refine wpStill_nil ?_
        change wpList _ _ _ _ _ w2.drew
        clear d0 d1 d2 d3 l1
        go_wp2_with fail
        refine Hsh1.out.mono ?_
        rintro e w3 ⟨rfl, hc2, hW⟩
        have y0 := hc2.cell (i := 0) rfl
        have y1 := hc2.cell (i := 1) rfl
        have y2 := hc2.cell (i := 2) rfl
        have y3 := hc2.cell (i := 3) rfl
        have z0 := hc2.frozen 0
        have z1 := hc2.frozen 1
        have z2 := hc2.frozen 2
        have z3 := hc2.frozen 3
        have HW := Lib.hid hW
        clear hW hc2 Hsh Hsh1 Hnx Hfr1
        go_wp2_with fail
        go_roundw
        case rel => exact ⟨j + 1, (HW.out _ rfl).1, (HW.out _ rfl).2.1⟩
        case measure => exact (HW.out _ rfl).2.2
      · have hpu' : (up : Int) < (b'.first : Int) := by omega
        have hub : b'.used ≤ 67108864 := hok.used
        have Hend : Hid (∀ W, W = (((wr.setCell ⟨w.heap.size + 1, 0, none⟩ (.int .u64 (b'.first : Int))).setCell ⟨w.heap.size + 1, 1, none⟩ (.int .u64 (b'.next : Int))).setCell ⟨w.heap.size + 1, 2, none⟩ (.int .i64 (b'.at_ : Int))).setCell ⟨w.heap.size + 1, 3, none⟩ (.int .i64 (b'.used : Int)) → Cells W (w.heap.size + 1) 62 (bdL b') ∧ ∃ j, j ≤ rs.length ∧ (j = rs.length ∨ up < b.first + j) ∧ (∀ i, i < j → b.first + i ≤ up) ∧ Ending.returned (.tuple #[bdV b', .nilIface]) = .returned (.tuple #[bdV (advB b R (rs.take j)), .nilIface]) ∧ RelO w W c7 lo b.first rs j ∧ Kept (fun x => x ≠ c7) w W) := by
          rintro W rfl
          have hkW : Kept (fun x => x ≠ w.heap.size + 1) wr ((((wr.setCell ⟨w.heap.size + 1, 0, none⟩ (.int .u64 (b'.first : Int))).setCell ⟨w.heap.size + 1, 1, none⟩ (.int .u64 (b'.next : Int))).setCell ⟨w.heap.size + 1, 2, none⟩ (.int .i64 (b'.at_ : Int))).setCell ⟨w.heap.size + 1, 3, none⟩ (.int .i64 (b'.used : Int))) := ((((Kept.refl _ wr).setCell (fun h => h rfl) _).setCell (fun h => h rfl) _).setCell (fun h => h rfl) _).setCell (fun h => h rfl) _
          have hk0 := hst.out.kept
          exact ⟨four_set hout rfl b', j, hst.out.le, .inr (by omega), hst.out.upto, by rw [← Hb'.out], hre.out.set hkW hout (by omega), ⟨hkW.os.trans hk0.os, hkW.tape.trans hk0.tape, hkW.output.trans hk0.output, Nat.le_trans hk0.size hkW.size, fun x hx hn => (hkW.block x (Nat.lt_of_lt_of_le hx hk0.size) (by omega)).trans (hk0.block x hx hn)⟩⟩
        have g0 := hout.cell (i := 0) rfl
        have g1 := hout.cell (i := 1) rfl
        have g2 := hout.cell (i := 2) rfl
        have g3 := hout.cell (i := 3) rfl
        have f0 := hout.frozen 0
        have f1 := hout.frozen 1
        have f2 := hout.frozen 2
        have f3 := hout.frozen 3
        clear hle hcnt hinr hok hfst hout hst hpu hbox hre Hsee
        go_wp2_with fail
        obtain ⟨W, hW⟩ : ∃ W, W = (((wr.setCell ⟨w.heap.size + 1, 0, none⟩ (.int .u64 (b'.first : Int))).setCell ⟨w.heap.size + 1, 1, none⟩ (.int .u64 (b'.next : Int))).setCell ⟨w.heap.size + 1, 2, none⟩ (.int .i64 (b'.at_ : Int))).setCell ⟨w.heap.size + 1, 3, none⟩ (.int .i64 (b'.used : Int)) := ⟨_, rfl⟩
        rw [← hW]
        obtain ⟨t3, t4⟩ := Hend.out W hW
        obtain ⟨q0, q1, q2, q3⟩ := BoxAt.four (b := b') t3
        simp only [Exit.noGoto_ret]
        change bodyPost _ _ _ Exit.ret _ _
        exact bodyPost_ret (v := .tuple #[bdV b', .nilIface]) (by simp [results, Tryd.results24, go_sem, q0, q1, q2, q3, bdV]) rfl t4
    · have hfe : ((b'.first : Int) == (b'.next : Int)) = true := by simp; omega
      have hu0 : b'.used = 0 := by
        have := hinr.used_eq
        rw [List.drop_eq_nil_of_le (by omega)] at this
        exact this
      have hu1 : (b'.used : Int) ≤ 0 := by omega
      have hje : j = rs.length := by omega
      have hub : b'.used ≤ 67108864 := hok.used
      have Hend : Hid (∀ W, W = (((wr.setCell ⟨w.heap.size + 1, 0, none⟩ (.int .u64 (b'.first : Int))).setCell ⟨w.heap.size + 1, 1, none⟩ (.int .u64 (b'.next : Int))).setCell ⟨w.heap.size + 1, 2, none⟩ (.int .i64 (b'.at_ : Int))).setCell ⟨w.heap.size + 1, 3, none⟩ (.int .i64 (b'.used : Int)) → Cells W (w.heap.size + 1) 62 (bdL b') ∧ ∃ j, j ≤ rs.length ∧ (j = rs.length ∨ up < b.first + j) ∧ (∀ i, i < j → b.first + i ≤ up) ∧ Ending.returned (.tuple #[bdV b', .nilIface]) = .returned (.tuple #[bdV (advB b R (rs.take j)), .nilIface]) ∧ RelO w W c7 lo b.first rs j ∧ Kept (fun x => x ≠ c7) w W) := by
        rintro W rfl
        have hkW : Kept (fun x => x ≠ w.heap.size + 1) wr ((((wr.setCell ⟨w.heap.size + 1, 0, none⟩ (.int .u64 (b'.first : Int))).setCell ⟨w.heap.size + 1, 1, none⟩ (.int .u64 (b'.next : Int))).setCell ⟨w.heap.size + 1, 2, none⟩ (.int .i64 (b'.at_ : Int))).setCell ⟨w.heap.size + 1, 3, none⟩ (.int .i64 (b'.used : Int))) := ((((Kept.refl _ wr).setCell (fun h => h rfl) _).setCell (fun h => h rfl) _).setCell (fun h => h rfl) _).setCell (fun h => h rfl) _
        have hk0 := hst.out.kept
        exact ⟨four_set hout rfl b', j, hst.out.le, .inl hje, hst.out.upto, by rw [← Hb'.out], hre.out.set hkW hout (by omega), ⟨hkW.os.trans hk0.os, hkW.tape.trans hk0.tape, hkW.output.trans hk0.output, Nat.le_trans hk0.size hkW.size, fun x hx hn => (hkW.block x (Nat.lt_of_lt_of_le hx hk0.size) (by omega)).trans (hk0.block x hx hn)⟩⟩
      have g0 := hout.cell (i := 0) rfl
      have g1 := hout.cell (i := 1) rfl
      have g2 := hout.cell (i := 2) rfl
      have g3 := hout.cell (i := 3) rfl
      have f0 := hout.frozen 0
      have f1 := hout.frozen 1
      have f2 := hout.frozen 2
      have f3 := hout.frozen 3
      clear hle hcnt hinr hok hfst hout hst hbox hje hj hu0 hre Hsee
      go_wp2_with fail
      obtain ⟨W, hW⟩ : ∃ W, W = (((wr.setCell ⟨w.heap.size + 1, 0, none⟩ (.int .u64 (b'.first : Int))).setCell ⟨w.heap.size + 1, 1, none⟩ (.int .u64 (b'.next : Int))).setCell ⟨w.heap.size + 1, 2, none⟩ (.int .i64 (b'.at_ : Int))).setCell ⟨w.heap.size + 1, 3, none⟩ (.int .i64 (b'.used : Int)) := ⟨_, rfl⟩
      rw [← hW]
      obtain ⟨t3, t4⟩ := Hend.out W hW
      obtain ⟨q0, q1, q2, q3⟩ := BoxAt.four (b := b') t3
      simp only [Exit.noGoto_ret]
      change bodyPost _ _ _ Exit.ret _ _
      exact bodyPost_ret (v := .tuple #[bdV b', .nilIface]) (by simp [results, Tryd.results24, go_sem, q0, q1, q2, q3, bdV]) rfl t4
end
end Go.Proofs.YtkjogkmdldplgaaDoor

/-
  A log is opened.
-/
namespace Go.Proofs.YtkjogkmdldplgaaDoor
open Go.RowKit

section
set_option maxRecDepth 20000
set_option maxHeartbeats 4000000
theorem open_sys (pw nv N : Nat) (P : Pow) (b : Bd) (rs : List (List UInt8)) (m : List UInt8) (O : Nat → Option Tag) (w : World) (h : SysAt w O pw P nv ⟨m, [], 0⟩) (hoff : P.off = false) (hN : m.length = N) (hh : Holds m b rs) :
    Calls Tryd.prog 13 #[.pointer (some ⟨nv, 0, none⟩)] w fun e w' => ∃ lb v, e = .returned (.tuple #[.pointer (some ⟨lb, 0, none⟩), v, .nilIface]) ∧ w.heap.size ≤ lb ∧ LG w' (fun x => O x ≠ none ∨ x = lb) pw nv lb P N b rs ∧ RecsAt w' w.heap.size v b.first rs ∧ Below w.heap.size w w' := by
  have hlow : 256 ≤ N := by rw [← hN]; exact hh.low
  have Hon := Lib.hid (on_any pw nv N _ _ O w h hN hlow)
  have hfree : ∀ x, w.heap.size ≤ x → O x = none := fun x hx => h.free hx
  have Hbd : Hid (∀ w1 (o : Obj), LogNew w1 w.heap.size nv (N - 57) → Below w.heap.size w w1 → Calls Tryd.prog 29 #[.pointer (some ⟨w.heap.size, 0, none⟩)] (w1.alloc o).drew fun e w2 => e = .returned (.tuple #[.agg #[.int .u64 (b.first : Int), .int .u64 (b.next : Int), .int .i64 (b.at_ : Int), .int .i64 (b.used : Int)], .nilIface]) ∧ Below (w1.alloc o).heap.size (w1.alloc o) w2) := by
    intro w1 o hl hb
    have hb2 : Below w.heap.size w (w1.alloc o) := hb.alloc hb.size o
    have hl2 : LogC (w1.alloc o) w.heap.size nv (N - 57) := LogC.move (w := w1) ⟨_, _, _, _, hl⟩ (Below.heap_alloc w1 o _ hl.lt)
    have := bounds_any pw nv w.heap.size (N - 57) P ⟨m, [], 0⟩ O b rs (w1.alloc o).drew ((h.below hb2).drewN 1) hoff hl2 (by rw [← hN]) hh
    exact this.mono fun e w2 ⟨he, hx⟩ => ⟨he, hx.os, hx.tape, hx.output, hx.size, hx.block⟩
  have hbok := hh.ok
  have hnx : b.next ≤ 1099511627776 := hh.nx
  have hin : InRing m (N - 57) b rs := by have := hh.inRing; rw [hN] at this; exact this
  have hR0 : 0 < N - 57 := by omega
  -- behind the bounds: the new log's block knows them
  have Hwk : Hid (∀ w1 w2, LogNew w1 w.heap.size nv (N - 57) → Below w.heap.size w w1 → Below (w1.alloc (.cells #[.pointer (some ⟨w.heap.size, 0, none⟩)] 29)).heap.size (w1.alloc (.cells #[.pointer (some ⟨w.heap.size, 0, none⟩)] 29)) w2 →
      LogNew w2 w.heap.size nv (N - 57) ∧ w2.cell? ⟨w1.heap.size, 0, none⟩ = some (.pointer (some ⟨w.heap.size, 0, none⟩)) ∧ ∀ w3, w3 = (((w2.setCell ⟨w.heap.size, 2, none⟩ (.int .u64 (b.first : Int))).setCell ⟨w.heap.size, 3, none⟩ (.int .u64 (b.next : Int))).setCell ⟨w.heap.size, 4, none⟩ (.int .i64 (b.at_ : Int))).setCell ⟨w.heap.size, 5, none⟩ (.int .i64 (b.used : Int)) →
        w3.cell? ⟨w1.heap.size, 0, none⟩ = some (.pointer (some ⟨w.heap.size, 0, none⟩)) ∧ ∀ w4 q, w4 = ((w3.drewN q).alloc (.cells #[.slice none 0 0] 40)).drew → w4.cell? ⟨w1.heap.size, 0, none⟩ = some (.pointer (some ⟨w.heap.size, 0, none⟩)) ∧ LogK w4 w.heap.size nv (N - 57) b ∧
          Calls Tryd.prog 24 #[.pointer (some ⟨w.heap.size, 0, none⟩), .agg #[.int .u64 (b.first : Int), .int .u64 (b.next : Int), .int .i64 (b.at_ : Int), .int .i64 (b.used : Int)], .int .u64 (b.next : Int), .func (.func 30) #[] #[.pointer (some ⟨w1.heap.size, 0, none⟩), .pointer (some ⟨w3.heap.size, 0, none⟩)]] w4 fun e w5 => ∃ bx, e = .returned (.tuple #[bx, .nilIface]) ∧ w5.cell? ⟨w1.heap.size, 0, none⟩ = some (.pointer (some ⟨w.heap.size, 0, none⟩)) ∧ LogK w5 w.heap.size nv (N - 57) b ∧ ∃ v, w5.cell? ⟨w3.heap.size, 0, none⟩ = some v ∧ ∀ z, w.heap.size ≤ w.heap.size ∧ LG (w5.drewN z) (fun x => O x ≠ none ∨ x = w.heap.size) pw nv w.heap.size P N b rs ∧ RecsAt (w5.drewN z) w.heap.size v b.first rs ∧ Below w.heap.size w (w5.drewN z)) := by
    intro w1 w2 hl hb hb2
    have hlt1 : w.heap.size < w1.heap.size := hl.lt
    have hA : Below w1.heap.size w1 (w1.alloc (.cells #[.pointer (some ⟨w.heap.size, 0, none⟩)] 29)) := (Below.refl _ w1).alloc (Nat.le_refl _) _
    have hsz : (w1.alloc (.cells #[.pointer (some ⟨w.heap.size, 0, none⟩)] 29)).heap.size = w1.heap.size + 1 := by simp
    have hlN2 : LogNew w2 w.heap.size nv (N - 57) := hl.move ((hb2.block _ (by omega)).trans (hA.block _ hlt1))
    have c5 : Cells w2 w1.heap.size 29 [.pointer (some ⟨w.heap.size, 0, none⟩)] := (Cells.new w1 #[.pointer (some ⟨w.heap.size, 0, none⟩)] _).move (hb2.block _ (by omega))
    have hbb2 : Below w.heap.size w w2 := hb.trans ((hA.trans (hb2.mono (by omega))).mono hb.size)
    refine ⟨hlN2, c5.cell rfl, ?_⟩
    rintro w3 rfl
    have kS : Kept (fun x => x ≠ w.heap.size) w2 ((((w2.setCell ⟨w.heap.size, 2, none⟩ (.int .u64 (b.first : Int))).setCell ⟨w.heap.size, 3, none⟩ (.int .u64 (b.next : Int))).setCell ⟨w.heap.size, 4, none⟩ (.int .i64 (b.at_ : Int))).setCell ⟨w.heap.size, 5, none⟩ (.int .i64 (b.used : Int))) := ((((Kept.refl _ w2).setCell (fun h => h rfl) _).setCell (fun h => h rfl) _).setCell (fun h => h rfl) _).setCell (fun h => h rfl) _
    have hK3 : LogK ((((w2.setCell ⟨w.heap.size, 2, none⟩ (.int .u64 (b.first : Int))).setCell ⟨w.heap.size, 3, none⟩ (.int .u64 (b.next : Int))).setCell ⟨w.heap.size, 4, none⟩ (.int .i64 (b.at_ : Int))).setCell ⟨w.heap.size, 5, none⟩ (.int .i64 (b.used : Int))) w.heap.size nv (N - 57) b := (((hlN2.set 2 (.int .u64 (b.first : Int))).set 3 (.int .u64 (b.next : Int))).set 4 (.int .i64 (b.at_ : Int))).set 5 (.int .i64 (b.used : Int))
    have hb3 : Below w.heap.size w ((((w2.setCell ⟨w.heap.size, 2, none⟩ (.int .u64 (b.first : Int))).setCell ⟨w.heap.size, 3, none⟩ (.int .u64 (b.next : Int))).setCell ⟨w.heap.size, 4, none⟩ (.int .i64 (b.at_ : Int))).setCell ⟨w.heap.size, 5, none⟩ (.int .i64 (b.used : Int))) := (((hbb2.setCell (Nat.le_refl _) _).setCell (Nat.le_refl _) _).setCell (Nat.le_refl _) _).setCell (Nat.le_refl _) _
    have c53 := c5.move (kS.block _ c5.lt (by omega))
    generalize (((w2.setCell ⟨w.heap.size, 2, none⟩ (.int .u64 (b.first : Int))).setCell ⟨w.heap.size, 3, none⟩ (.int .u64 (b.next : Int))).setCell ⟨w.heap.size, 4, none⟩ (.int .i64 (b.at_ : Int))).setCell ⟨w.heap.size, 5, none⟩ (.int .i64 (b.used : Int)) = w3 at *
    refine ⟨c53.cell rfl, ?_⟩
    rintro w4 q rfl
    have hA4 : Below w3.heap.size w3 ((w3.drewN q).alloc (.cells #[.slice none 0 0] 40)).drew := ((drewN_below (Below.refl _ w3) q).alloc (Nat.le_refl _) _).drew
    have hK4 := hK3.move (hA4.block _ hK3.lt)
    have c54 := c53.move (hA4.block _ c53.lt)
    have c74 : Cells ((w3.drewN q).alloc (.cells #[.slice none 0 0] 40)).drew w3.heap.size 40 [.slice none 0 0] := (Cells.new (w3.drewN q) #[.slice none 0 0] _).drew
    have hb4 : Below w.heap.size w ((w3.drewN q).alloc (.cells #[.slice none 0 0] 40)).drew := hb3.trans (hA4.mono hb3.size)
    have s4 := h.below hb4
    generalize ((w3.drewN q).alloc (.cells #[.slice none 0 0] 40)).drew = w4 at *
    refine ⟨c54.cell rfl, hK4, ?_⟩
    have hlo3 : w.heap.size ≤ w3.heap.size := hb3.size
    refine (walk_see pw nv w.heap.size (N - 57) b.next w1.heap.size w3.heap.size w.heap.size P ⟨m, [], 0⟩ O b rs w4 s4 hoff ⟨_, _, _, _, hK4⟩ (by rw [← hN]) hR0 hin hnx (c54.cell rfl) c74 (hfree _ hlo3) (by have := hK3.lt; omega) (by have := c53.lt; omega) hb4.size).mono ?_
    rintro e w5 ⟨j, hj, j1, j2, rfl, ⟨v, r1, r2, r3⟩, k5⟩
    have hje : j = rs.length := by have := hin.cnt; omega
    subst hje
    rw [List.take_length] at r2
    have hK5 : LogK w5 w.heap.size nv (N - 57) b := hK4.move (k5.block _ hK4.lt (by have := hK3.lt; omega))
    refine ⟨_, rfl, (c54.move (k5.block _ c54.lt (by have := c53.lt; omega))).cell rfl, hK5, v, r1.cell rfl, fun z => ⟨Nat.le_refl _, ⟨O, m, (s4.kept (k5.mono fun x _ q e => q (by rw [e]; exact hfree _ hlo3))).drewN z, hfree _ (Nat.le_refl _), ⟨_, _, _, _, hK5⟩, hN, hh, fun _ => Iff.rfl⟩, ?_, drewN_below (hb4.trans (k5.to_below (fun x hx => by omega) hb4.size)) z⟩⟩
    exact Rows2.recs (w := w5) (fun g cur t y hg _ => rfl) r2
  clear h hh hbok hnx hin hR0 hfree hlow
  go_enter Tryd.func13, Tryd.ntmps13
  go_wp2_with fail
  refine Hon.out.mono ?_
  rintro e w1 ⟨rfl, q1, q2⟩
  have Hb1 := Lib.hid (Hbd.out w1 (.cells #[.pointer (some ⟨w.heap.size, 0, none⟩)] 29) q1 q2)
  have Hw1 := Lib.hid (fun w2 => Hwk.out w1 w2 q1 q2)
  clear q1 q2 Hbd Hon Hwk
  have k0 : (w1.alloc (.cells #[.pointer (some ⟨w.heap.size, 0, none⟩)] 29)).cell? ⟨w1.heap.size, 0, none⟩ = some (.pointer (some ⟨w.heap.size, 0, none⟩)) := (Cells.new w1 #[.pointer (some ⟨w.heap.size, 0, none⟩)] _).cell rfl
  go_upto_region 3 with fail
  go_region_held3 (fun W => W.cell? ⟨w1.heap.size, 0, none⟩ = some (.pointer (some ⟨w.heap.size, 0, none⟩))) (first | exact k0 | exact k2 | exact k3) (first
    | (go_at_call 29; refine Hb1.out.mono ?_; rintro e w2 ⟨rfl, hb2⟩; obtain ⟨hl2, k2, hw3⟩ := Hw1.out w2 hb2; have k3 := (hw3 _ rfl).1; have Hw3 := Lib.hid hw3; have g2 := hl2.cell (i := 2) rfl; have g3 := hl2.cell (i := 3) rfl; have g4 := hl2.cell (i := 4) rfl; have g5 := hl2.cell (i := 5) rfl; have f2 := hl2.frozen 2; have f3 := hl2.frozen 3; have f4 := hl2.frozen 4; have f5 := hl2.frozen 5; clear hb2 hl2 hw3))
  clear k0 k2 k3 g2 g3 g4 g5 f2 f3 f4 f5 Hb1 Hw1
  obtain ⟨w3, hw3e⟩ : ∃ w3, w3 = (((w2.setCell ⟨w.heap.size, 2, none⟩ (.int .u64 (b.first : Int))).setCell ⟨w.heap.size, 3, none⟩ (.int .u64 (b.next : Int))).setCell ⟨w.heap.size, 4, none⟩ (.int .i64 (b.at_ : Int))).setCell ⟨w.heap.size, 5, none⟩ (.int .i64 (b.used : Int)) := ⟨_, rfl⟩
  obtain ⟨_, h4⟩ := Hw3.out w3 hw3e
  rw [← hw3e]
  clear hw3e Hw3
  have H4 := Lib.hid (h4 ((w3.drewN 0).alloc (.cells #[.slice none 0 0] 40)).drew 0 rfl)
  clear h4
  have hmf : ∀ (fn : Fn) (first cap : Array Value) (w : World), (Instr.makeFunc fn first cap).run Tryd.prog w = .ok (.func fn first cap) w := fun _ _ _ _ => rfl
  go_upto_region 7 with fail
  obtain ⟨k4, hK4, hwalk⟩ := H4.out
  have k4' : (w3.alloc (.cells #[.slice none 0 0] 40)).cell? ⟨w1.heap.size, 0, none⟩ = some (.pointer (some ⟨w.heap.size, 0, none⟩)) := k4
  have hK4' : LogK (w3.alloc (.cells #[.slice none 0 0] 40)) w.heap.size nv (N - 57) b := hK4
  have a2 : (w3.alloc (.cells #[.slice none 0 0] 40)).cell? ⟨w.heap.size, 2, none⟩ = some (.int .u64 (b.first : Int)) := hK4'.cell rfl
  have a3 : (w3.alloc (.cells #[.slice none 0 0] 40)).cell? ⟨w.heap.size, 3, none⟩ = some (.int .u64 (b.next : Int)) := hK4'.cell rfl
  have a4 : (w3.alloc (.cells #[.slice none 0 0] 40)).cell? ⟨w.heap.size, 4, none⟩ = some (.int .i64 (b.at_ : Int)) := hK4'.cell rfl
  have a5 : (w3.alloc (.cells #[.slice none 0 0] 40)).cell? ⟨w.heap.size, 5, none⟩ = some (.int .i64 (b.used : Int)) := hK4'.cell rfl
  have Hwalk : Hid (Calls Tryd.prog 24 #[.pointer (some ⟨w.heap.size, 0, none⟩), .agg #[.int .u64 (b.first : Int), .int .u64 (b.next : Int), .int .i64 (b.at_ : Int), .int .i64 (b.used : Int)], .int .u64 (b.next : Int), .func (.func 30) #[] #[.pointer (some ⟨w1.heap.size, 0, none⟩), .pointer (some ⟨w3.heap.size, 0, none⟩)]] (w3.alloc (.cells #[.slice none 0 0] 40)).drew _) := hwalk
  clear k4 hK4 hK4' hwalk H4
  go_region_held3 (fun W => W.cell? ⟨w1.heap.size, 0, none⟩ = some (.pointer (some ⟨w.heap.size, 0, none⟩)) ∧ W.cell? ⟨w.heap.size, 2, none⟩ = some (.int .u64 (b.first : Int)) ∧ W.cell? ⟨w.heap.size, 3, none⟩ = some (.int .u64 (b.next : Int)) ∧ W.cell? ⟨w.heap.size, 4, none⟩ = some (.int .i64 (b.at_ : Int)) ∧ W.cell? ⟨w.heap.size, 5, none⟩ = some (.int .i64 (b.used : Int))) (first | exact ⟨k4', a2, a3, a4, a5⟩ | exact ⟨k5, b2, b3, b4, b5⟩) (first
    | (go_at_call 24; refine Hwalk.out.mono ?_; rintro e w5 ⟨bx, rfl, k5, hK5, v, hv, hfin⟩; have b2 : w5.cell? ⟨w.heap.size, 2, none⟩ = some (.int .u64 (b.first : Int)) := hK5.cell rfl; have b3 : w5.cell? ⟨w.heap.size, 3, none⟩ = some (.int .u64 (b.next : Int)) := hK5.cell rfl; have b4 : w5.cell? ⟨w.heap.size, 4, none⟩ = some (.int .i64 (b.at_ : Int)) := hK5.cell rfl; have b5 : w5.cell? ⟨w.heap.size, 5, none⟩ = some (.int .i64 (b.used : Int)) := hK5.cell rfl; have Hfin := Lib.hid hfin; clear hfin hK5))
  all_goals
    clear k4' a2 a3 a4 a5 b2 b3 b4 b5 Hwalk hmf
    go_wp2_with fail
    go_quiet (fail)
    go_wp2_with fail
    go_ret3
    obtain ⟨_, r1, r2, r3⟩ := Hfin.out nq
    exact ⟨_, v, rfl, Nat.le_refl _, r1, r2, r3⟩
theorem LG.opened {w : World} {M : Nat → Prop} {pw nv lb N : Nat} {P : Pow} {b : Bd} {rs : List (List UInt8)} (h : LG w M pw nv lb P N b rs) (hoff : P.off = false) :
    Calls Tryd.prog 13 #[.pointer (some ⟨nv, 0, none⟩)] w fun e w' => ∃ lb' v, e = .returned (.tuple #[.pointer (some ⟨lb', 0, none⟩), v, .nilIface]) ∧ w.heap.size ≤ lb' ∧ (∃ M', LG w' M' pw nv lb' P N b rs ∧ ExtM w M w' M') ∧ RecsAt w' w.heap.size v b.first rs ∧ Below w.heap.size w w' := by
  obtain ⟨O, m, h1, h2, h3, h4, h5, h6⟩ := h
  refine (open_sys pw nv N P b rs m O w h1 hoff h4 h5).mono ?_
  rintro e w' ⟨lb', v, he, hlb, q1, q2, q3⟩
  refine ⟨lb', v, he, hlb, ⟨_, q1, Below.kept q3 _, fun x hx q => ?_⟩, q2, q3⟩
  rcases q with q | q
  · exact (h6 x).2 (.inl q)
  · omega
end
end Go.Proofs.YtkjogkmdldplgaaDoor

/-
  both: two plain lists as one.
-/
import Derived.Test.YtghcfmkmndldoaaEl7
namespace Go.Proofs.Ytghcfmkmndldoaa
open Go.RowKit Go.Sort Go.Lib

theorem bnd_append (l m : List Ec) : bndE (l ++ m) = bndE l ++ bndE m := by simp [bndE]
theorem bnd_len (l : List Ec) : (bndE l).length = 2 * l.length := by
  induction l with
  | nil => rfl
  | cons a l ih => rw [show bndE (a :: l) = [a.1, a.2.1] ++ bndE l from rfl, List.length_append, ih]; simp; omega
theorem bnd_suffix {l m : List Ec} (h : m <:+ l) {x : ByteArray} (hx : x ∈ bndE m) : x ∈ bndE l := by
  obtain ⟨t, rfl⟩ := h
  rw [bnd_append]
  exact List.mem_append_right _ hx
theorem left_le (bs : List ByteArray) (k : ByteArray) : leftE bs k ≤ bs.length := List.countP_le_length
theorem join_len (l : List Ec) (e : Ec) : (joinE l e).length ≤ l.length + 1 := by
  by_cases h : l = []
  · subst h; rw [join_nil]; simp
  · obtain ⟨m, x, rfl⟩ := snoc_of h
    rw [join_snoc]
    split <;> simp
/-- what is left of a list for keys from k on -/
structure LeftAt (a r : List Ec) (k : ByteArray) : Prop where
  suf : r <:+ a
  top : ∀ j, ke k j → topE r j = topE a j
theorem LeftAt.start (a : List Ec) (k : ByteArray) : LeftAt a a k := ⟨List.suffix_refl _, fun _ _ => rfl⟩
theorem LeftAt.drop {a r : List Ec} {k : ByteArray} (h : LeftAt a r k) : LeftAt a (dropE k r) k := ⟨(drop_suffix k r).trans h.suf, fun j hj => by rw [drop_top hj, h.top j hj]⟩
theorem LeftAt.up {a r : List Ec} {k k' : ByteArray} (h : LeftAt a r k) (hk : ke k k') : LeftAt a r k' := ⟨h.suf, fun j hj => h.top j (ke_trans hk hj)⟩
theorem LeftAt.head {a r : List Ec} {k : ByteArray} (h : LeftAt a r k) (hp : PlainE a) : AtE (topE a) (bndE a) k (headE k r) := by
  rcases head_at (hp.sub h.suf.sublist) k with ⟨q1, q2⟩ | ⟨q1, q2, q3, q4, q5, q6⟩
  · exact .inl ⟨q1, fun j hj => by rw [← h.top j hj]; exact q2 j hj⟩
  · refine .inr ⟨q1, q2, fun j h1 h2 => by rw [← h.top j h1]; exact q3 j h1 h2, fun j h1 h2 => by rw [← h.top j (ke_trans q2 h1)]; exact q4 j h1 h2, bnd_suffix h.suf q5, q6.imp id (bnd_suffix h.suf)⟩
theorem OwnE.notWk {w : World} {base B lb : Nat} {v : Value} {es r : List Ec} (h : OwnE w base v es) (hw : WkAt w B lb r) : v.ownBlock ≠ some lb := fun e => by
  obtain ⟨A, c, hc, _⟩ := hw
  rcases h.2 with ⟨e1, _⟩ | ⟨g, cap, cur, e1, _, hh, _⟩
  · rw [e1] at e; cases e
  · rw [e1] at e
    cases e
    unfold Cells at hc
    rw [hh] at hc
    cases hc
/-- WHERE both STANDS -/
structure BSt (w wr : World) (a b : List Ec) (v : Value) (k : ByteArray) (out ra rb : List Ec) : Prop where
  own : OwnE wr w.heap.size v out
  st : BothSt (fun j => max (topE a j) (topE b j)) out k
  len : out.length + leftE (bndE a ++ bndE b) k ≤ (bndE a ++ bndE b).length
  wa : WkAt wr w.heap.size w.heap.size ra
  wb : WkAt wr w.heap.size (w.heap.size + 1) rb
  la : LeftAt a ra k
  lb : LeftAt b rb k
  bel : Below w.heap.size w wr
/-- what both tells -/
structure BothP (w w' : World) (a b : List Ec) (v : Value) (out : List Ec) : Prop where
  own : OwnE w' w.heap.size v out
  plain : PlainE out
  top : ∀ j, topE out j = max (topE a j) (topE b j)
  len : out.length ≤ 2 * (a.length + b.length)
  bel : Below w.heap.size w w'
section
set_option maxRecDepth 100000
set_option maxHeartbeats 8000000
theorem both_any (A B : Option Addr) (ca cb : Nat) (a b : List Ec) (w : World) (ha : RE w w.heap.size A a) (hb : RE w w.heap.size B b) (hca : a.length ≤ ca) (hcb : b.length ≤ cb) (pa : PlainE a) (pb : PlainE b) (hl : a.length + b.length ≤ 100000000000) :
    Calls Try.prog 38 #[.slice A a.length ca, .slice B b.length cb] w fun r w' => ∃ v out, r = .returned v ∧ BothP w w' a b v out := by
  have HW1 := Lib.hid (walk_any A a.length ca w)
  have HW2 := Lib.hid (walk_any B b.length cb (w.alloc (.cells #[.slice A a.length ca] 22)))
  have H1 : Hid (WkAt ((w.alloc (.cells #[.slice A a.length ca] 22)).alloc (.cells #[.slice B b.length cb] 22)) w.heap.size w.heap.size a ∧ WkAt ((w.alloc (.cells #[.slice A a.length ca] 22)).alloc (.cells #[.slice B b.length cb] 22)) w.heap.size (w.heap.size + 1) b ∧ Below w.heap.size w ((w.alloc (.cells #[.slice A a.length ca] 22)).alloc (.cells #[.slice B b.length cb] 22))) := by
    have hB : Below w.heap.size w ((w.alloc (.cells #[.slice A a.length ca] 22)).alloc (.cells #[.slice B b.length cb] 22)) := ((Below.refl _ _).alloc (Nat.le_refl _) _).alloc (by simp) _
    have c2 := Cells.new (w.alloc (.cells #[.slice A a.length ca] 22)) #[.slice B b.length cb] 22
    rw [show (w.alloc (.cells #[.slice A a.length ca] 22)).heap.size = w.heap.size + 1 by simp] at c2
    exact ⟨⟨A, ca, (Cells.new w _ _).alloc _, ha.below hB, hca, Nat.le_refl _⟩, ⟨B, cb, c2, hb.below hB, hcb, Nat.le_succ _⟩, hB⟩
  have HP : Hid (PlainE a ∧ PlainE b ∧ a.length + b.length ≤ 100000000000) := ⟨pa, pb, hl⟩
  rw [show (w.alloc (.cells #[.slice A a.length ca] 22)).heap.size = w.heap.size + 1 by simp] at HW2
  clear ha hb hca hcb pa pb hl
  go_enter Try.func38, Try.ntmps38
  go_wp2_with fail
  refine HW1.out.mono ?_
  rintro e w1 ⟨rfl, rfl⟩
  go_wp2_with fail
  refine HW2.out.mono ?_
  rintro e w2 ⟨rfl, hw2⟩
  have H2 : Hid (WkAt w2 w.heap.size w.heap.size a ∧ WkAt w2 w.heap.size (w.heap.size + 1) b ∧ Below w.heap.size w w2) := by rw [hw2]; exact H1.out
  clear hw2 HW1 HW2 H1
  go_wp2_with fail
  go_loopw [5, 8] (fun v kv wr => ∃ (k : ByteArray) (v' : Value), v = v' ∧ kv = .string k ∧ Hid (∃ out ra rb, BSt w wr a b v' k out ra rb)) (fun _ kv _ => match kv with | .string k => leftE (bndE a ++ bndE b) k | _ => 0)
  case atStart =>
    refine ⟨⟨#[]⟩, _, rfl, rfl, [], a, b, ⟨OwnE.nil _ _, BothSt.nil _, ?_, H2.out.1, H2.out.2.1, LeftAt.start _ _, LeftAt.start _ _, H2.out.2.2⟩⟩
    have := left_le (bndE a ++ bndE b) ⟨#[]⟩
    simpa using this
  case round =>
    obtain ⟨k, v, ev, rfl, hst0⟩ := hrel
    obtain rfl := ev.symm
    obtain ⟨out, ra, rb, hst1⟩ := hst0.out
    have hst := Lib.hid hst1
    have hra : ra.length ≤ 100000000000 := by have := hst1.la.suf.length_le; have := HP.out.2.2; omega
    have hrb : rb.length ≤ 100000000000 := by have := hst1.lb.suf.length_le; have := HP.out.2.2; omega
    have HA := Lib.hid (walk1_any w.heap.size w.heap.size ra k wr hst1.wa (by omega) hst1.bel.size)
    have Hrb := Lib.hid hrb
    clear hst0 hst1 hra hrb H2
    go_wp2_with fail
    refine HA.out.mono ?_
    rintro e w3 ⟨rfl, hwa3, hk3⟩
    have hs3 := hk3.size
    have HB := Lib.hid (walk1_any w.heap.size (w.heap.size + 1) rb k w3 (hst.out.wb.kept hk3 (by omega) (fun b hb => by omega) hst.out.bel.size) (by have := Hrb.out; omega) (Nat.le_trans hst.out.bel.size hs3))
    have H3 : Hid (WkAt w3 w.heap.size w.heap.size (dropE k ra) ∧ Kept (fun k => k ≠ w.heap.size) wr w3) := ⟨hwa3, hk3⟩
    clear hwa3 hk3 hs3 HA
    go_wp2_with fail
    refine HB.out.mono ?_
    rintro e w4 ⟨rfl, hwb4, hk4⟩
    have hs4 := hk4.size
    have HF := Lib.hid (front_any (headE k ra) (headE k rb) w4)
    have H4 : Hid (WkAt w4 w.heap.size w.heap.size (dropE k ra) ∧ WkAt w4 w.heap.size (w.heap.size + 1) (dropE k rb) ∧ Kept (fun k => k ≠ w.heap.size ∧ k ≠ w.heap.size + 1) wr w4) :=
      ⟨H3.out.1.kept hk4 (by omega) (fun b hb => by omega) (by have := H3.out.2.size; have := hst.out.bel.size; omega), hwb4, (H3.out.2.mono fun _ _ q => q.1).trans (hk4.mono fun _ _ q => q.2)⟩
    clear hwb4 hk4 hs4 HB H3
    have Hat : Hid (AtE (fun j => max (topE a j) (topE b j)) (bndE a ++ bndE b) k (frontE (headE k ra) (headE k rb))) := front_at (hst.out.la.head HP.out.1) (hst.out.lb.head HP.out.2.1)
    generalize frontE (headE k ra) (headE k rb) = e at *
    go_wp2_with fail
    refine HF.out.mono ?_
    rintro r w5 ⟨rfl, hb5⟩
    have hq := fun W => eqlE_any e zeroE W
    rw [eV_zero] at hq
    obtain ⟨W6, hW6⟩ : ∃ W6, W6 = w5.alloc (.cells #[.string e.1, .string e.2.1, .int .u64 (e.2.2 : Int)] 32) := ⟨_, rfl⟩
    have hC6 : Cells W6 w5.heap.size 32 (cellE e) := by rw [hW6]; exact Cells.new w5 _ _
    have hk6 : Kept (fun k => k ≠ w.heap.size ∧ k ≠ w.heap.size + 1) wr W6 := by rw [hW6]; exact (H4.out.2.2.below hb5).alloc _
    have hk46 : Kept (fun _ => True) w4 W6 := by rw [hW6]; exact ((Kept.refl _ _).below hb5).alloc _
    have hO6 : OwnE W6 w.heap.size v out := hst.out.own.move fun g hg => hk6.block g (hst.out.own.ge g hg).2 ⟨fun q => hst.out.own.notWk hst.out.wa (by rw [hg, q]), fun q => hst.out.own.notWk hst.out.wb (by rw [hg, q])⟩
    have hs6 : w.heap.size ≤ W6.heap.size := Nat.le_trans hst.out.bel.size hk6.size
    have hs4 : w.heap.size ≤ w4.heap.size := Nat.le_trans hst.out.bel.size H4.out.2.2.size
    have H6 : Hid (Cells W6 w5.heap.size 32 (cellE e) ∧ OwnE W6 w.heap.size v out ∧ WkAt W6 w.heap.size w.heap.size (dropE k ra) ∧ WkAt W6 w.heap.size (w.heap.size + 1) (dropE k rb) ∧ Below w.heap.size w W6 ∧ w4.heap.size ≤ w5.heap.size) :=
      ⟨hC6, hO6, H4.out.1.kept hk46 trivial (fun _ _ => trivial) hs4, H4.out.2.1.kept hk46 trivial (fun _ _ => trivial) hs4, hst.out.bel.trans (hk6.to_below (fun b hb => ⟨by omega, by omega⟩) hst.out.bel.size), hb5.size⟩
    have c0 := hC6.cell (i := 0) rfl
    have c1 := hC6.cell (i := 1) rfl
    have c2 := hC6.cell (i := 2) rfl
    have hol : out.length ≤ 200000000000 := by
      have h1 := hst.out.len
      rw [List.length_append, bnd_len, bnd_len] at h1
      have := HP.out.2.2
      omega
    have HJ := Lib.hid (joined_any out e w.heap.size v W6 hO6 hs6 (by omega))
    have Hv : Hid (∀ g, v.ownBlock = some g → g < wr.heap.size) := fun g hg => (hst.out.own.ge g hg).2
    have Hw5 : Hid (wr.heap.size ≤ w5.heap.size) := Nat.le_trans H4.out.2.2.size hb5.size
    clear hb5 hC6 hk6 hk46 hO6 hs6 hs4 HF H4 hol
    unfold eV at HJ ⊢ hq
    by_cases h0 : e = zeroE
    · rw [decide_eq_true h0] at hq
      have Hf : Hid (BothP w W6 a b v out) := by
        refine ⟨H6.out.2.1, hst.out.st.plain, hst.out.st.done Hat.out h0, ?_, H6.out.2.2.2.2.1⟩
        have h1 := hst.out.len
        rw [List.length_append, bnd_len, bnd_len] at h1
        omega
      clear h0 HJ Hat
      go_upto_region 5 with fail
      rw [← hW6]
      clear hW6
      go_wp2_with fail
      go_ret
      exact ⟨v, out, rfl, Hf.out⟩
    · rw [decide_eq_false h0] at hq
      have Hstep : Hid (BothSt (fun j => max (topE a j) (topE b j)) (joinE out e) e.2.1 ∧ kl k e.2.1 ∧ e.2.1 ∈ bndE a ++ bndE b) := hst.out.st.step Hat.out h0
      clear h0 Hat
      go_upto_region 5 with fail
      rw [← hW6]
      clear hW6
      go_wp2_with fail
      refine HJ.out.mono ?_
      rintro r w7 ⟨v7, rfl, ho7, hk7⟩
      have hne : v.ownBlock ≠ some w5.heap.size := fun q => by have := Hv.out _ q; have := Hw5.out; omega
      have hC7 : Cells w7 w5.heap.size 32 (cellE e) := H6.out.1.move (hk7.block _ H6.out.1.lt hne)
      have c1' := hC7.cell (i := 1) rfl
      have Hn : Hid (BSt w w7 a b v7 e.2.1 (joinE out e) (dropE k ra) (dropE k rb)) := by
        refine ⟨ho7, Hstep.out.1, ?_, ?_, ?_, hst.out.la.drop.up Hstep.out.2.1.ke, hst.out.lb.drop.up Hstep.out.2.1.ke, ?_⟩
        · have h1 := hst.out.len
          have h2 := left_less Hstep.out.2.1 Hstep.out.2.2
          have h3 := join_len out e
          omega
        · exact H6.out.2.2.1.kept hk7 (H6.out.2.1.notWk H6.out.2.2.1) (fun b hb q => by have := (H6.out.2.1.ge b q).1; omega) H6.out.2.2.2.2.1.size
        · exact H6.out.2.2.2.1.kept hk7 (H6.out.2.1.notWk H6.out.2.2.2.1) (fun b hb q => by have := (H6.out.2.1.ge b q).1; omega) H6.out.2.2.2.2.1.size
        · exact H6.out.2.2.2.2.1.trans (hk7.to_below (fun b hb q => by have := (H6.out.2.1.ge b q).1; omega) H6.out.2.2.2.2.1.size)
      have Hm : Hid (leftE (bndE a ++ bndE b) e.2.1 < leftE (bndE a ++ bndE b) k) := left_less Hstep.out.2.1 Hstep.out.2.2
      clear hne hC7 ho7 hk7 c0 c1 c2 HJ H6 Hstep
      go_wp2_with fail
      go_roundw
      case rel => exact ⟨e.2.1, v7, rfl, rfl, _, _, _, Hn.out⟩
      case measure => exact Hm.out
end
end Go.Proofs.Ytghcfmkmndldoaa

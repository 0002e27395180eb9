/-
  MediumDead, walked.
-/
import Derived.Test.YtejimgjonhaocaaMeD7
import Derived.Test.YtejimgjonhaocaaMe17
namespace Go.Proofs.Ytejimgjonhaocaa
open Go.RowKit Go.Maps Go.Lib Go.Sort

/-- between two rounds: what is left to drop is ns; k rounds are gone -/
structure TuSt (w wr : World) (tb mb dep nxt : Nat) (L : List Md) (rs : List Nat) (k : Nat) (v : Value) (ns : List Nat) : Prop where
  ex : ∃ K N, TabG wr tb mb dep nxt (rowG K) N ∧ Ok dep nxt K ∧ Left L K rs ∧ deadK L K rs = ns ∧ N ≤ 200 + 400 * k
  own : OwnN wr w.heap.size v ns
  nb : ∀ g, v.ownBlock = some g → g ≠ tb ∧ g ≠ mb
  len : ns.length + k ≤ (deadL L rs).length
  few : (deadL L rs).length ≤ 101
  bel : Below w.heap.size w wr
  ge : w.heap.size ≤ tb ∧ w.heap.size ≤ mb
/-- within a round -/
structure InSt (w wr : World) (tb mb dep nxt : Nat) (L : List Md) (rs : List Nat) (k : Nat) (v : Value) (ns : List Nat) (u : Value) (nx : List Nat) (i : Nat) : Prop where
  ex : ∃ K N, TabG wr tb mb dep nxt (rowG K) N ∧ PassSt dep nxt L K rs ns nx i ∧ N ≤ 200 + 400 * k + 2 * i
  own : OwnN wr w.heap.size v ns
  nb : ∀ g, v.ownBlock = some g → g ≠ tb ∧ g ≠ mb
  xown : OwnN wr w.heap.size u nx
  xnb : ∀ g, u.ownBlock = some g → g ≠ tb ∧ g ≠ mb ∧ v.ownBlock ≠ some g
  len : ns.length + k ≤ (deadL L rs).length
  few : (deadL L rs).length ≤ 101
  gone : i = ns.length → ns ≠ [] → nx.length < ns.length
  bel : Below w.heap.size w wr
  ge : w.heap.size ≤ tb ∧ w.heap.size ≤ mb
theorem OwnN.at' {w : World} {base m c : Nat} {A : Option Addr} {ns : List Nat} (h : OwnN w base (.slice A m c) ns) {i n : Nat} (hn : ns[i]? = some n) : ∃ b, A = some ⟨b, 0, none⟩ ∧ b < w.heap.size ∧ w.cell? ⟨b, i, none⟩ = some (.int .u64 (n : Int)) := by
  obtain ⟨A', c', e, -, h⟩ := h.rd
  injection e with e1 _ _
  subst e1
  exact h i n hn
section
variable {w wr w' : World} {tb mb dep nxt k i : Nat} {L : List Md} {rs ns nx : List Nat} {v u : Value}
theorem TuSt.start (h : TuSt w wr tb mb dep nxt L rs k v ns) : InSt w wr tb mb dep nxt L rs k v ns (.slice none 0 0) [] 0 := by
  obtain ⟨K, N, h1, h2, h3, h4, h5⟩ := h.ex
  exact ⟨⟨K, N, h1, ⟨h2, h3, by rw [h4]; rfl, Nat.le_refl _⟩, by omega⟩, h.own, h.nb, OwnN.nil _ _, (fun g e => by cases e), h.len, h.few, fun e hne => absurd (List.eq_nil_of_length_eq_zero e.symm) hne, h.bel, h.ge⟩
theorem InSt.stop (h : InSt w wr tb mb dep nxt L rs k v ns u nx i) (hi : i = ns.length) (hne : ns ≠ []) : TuSt w wr tb mb dep nxt L rs (k + 1) u nx := by
  obtain ⟨K, N, h1, h2, h3⟩ := h.ex
  have hl := h.gone hi hne
  have h4 := h.len
  have h5 := h.few
  refine ⟨⟨K, N, h1, h2.ok, h2.left, ?_, by omega⟩, h.xown, fun g e => ⟨(h.xnb g e).1, (h.xnb g e).2.1⟩, by omega, h5, h.bel, h.ge⟩
  rw [h2.ids, hi, List.drop_length, List.append_nil]
/-- it went -/
theorem InSt.go {K : List Md} {N n : Nat} (h : InSt w wr tb mb dep nxt L rs k v ns u nx i) (hP : PassSt dep nxt L K rs ns nx i) (hN : N ≤ 200 + 400 * k + 2 * i) (hn : ns[i]? = some n) (hu : ups K n = 0)
    (hT : TabG w' tb mb dep nxt (rowG (dropL K n)) (N + 2)) (hk : Kept (Off tb mb) wr w') : InSt w w' tb mb dep nxt L rs k v ns u nx (i + 1) := by
  have hi : i < ns.length := (List.getElem?_eq_some_iff.1 hn).1
  have h0 := hP.len
  exact ⟨⟨_, _, hT, hP.go hn hu, by omega⟩, h.own.move fun g e => hk.block g (h.own.ge g e).2 (h.nb g e), h.nb, h.xown.move fun g e => hk.block g (h.xown.ge g e).2 ⟨(h.xnb g e).1, (h.xnb g e).2.1⟩, h.xnb, h.len, h.few, fun _ _ => by omega, ChAt.off h.bel h.ge.1 h.ge.2 hk, h.ge⟩
/-- it stays: behind Drop -/
theorem InSt.mid {K : List Md} {N n : Nat} (hO : Ok dep nxt L) (h : InSt w wr tb mb dep nxt L rs k v ns u nx i) (hP : PassSt dep nxt L K rs ns nx i) (hN : N ≤ 200 + 400 * k + 2 * i) (hn : ns[i]? = some n) (hu : 0 < ups K n)
    (hT : TabG w' tb mb dep nxt (rowG K) (N + 2)) (hk : Kept (Off tb mb) wr w') :
    OwnN w' w.heap.size v ns ∧ OwnN w' w.heap.size u nx ∧ (∃ K N, TabG w' tb mb dep nxt (rowG K) N ∧ PassSt dep nxt L K rs ns (nx ++ [n]) (i + 1) ∧ N ≤ 200 + 400 * k + 2 * (i + 1)) ∧ Below w.heap.size w w' ∧ i + 1 ≠ ns.length :=
  ⟨h.own.move fun g e => hk.block g (h.own.ge g e).2 (h.nb g e), h.xown.move fun g e => hk.block g (h.xown.ge g e).2 ⟨(h.xnb g e).1, (h.xnb g e).2.1⟩, ⟨K, N + 2, hT, hP.stay hn, by omega⟩, ChAt.off h.bel h.ge.1 h.ge.2 hk, fun e => by have := hP.last hO hn e; omega⟩
/-- and behind append -/
theorem InSt.grow {n : Nat} {w5 w6 : World} {u' : Value} (h : InSt w wr tb mb dep nxt L rs k v ns u nx i) (hm : OwnN w5 w.heap.size v ns ∧ OwnN w5 w.heap.size u nx ∧ (∃ K N, TabG w5 tb mb dep nxt (rowG K) N ∧ PassSt dep nxt L K rs ns (nx ++ [n]) (i + 1) ∧ N ≤ 200 + 400 * k + 2 * (i + 1)) ∧ Below w.heap.size w w5 ∧ i + 1 ≠ ns.length)
    (hx : OwnN w6 w.heap.size u' (nx ++ [n])) (hg : w5.grownBy w6 u.ownBlock) (hb : u'.ownBlock = u.ownBlock ∨ u'.ownBlock = some w5.heap.size) : InSt w w6 tb mb dep nxt L rs k v ns u' (nx ++ [n]) (i + 1) := by
  obtain ⟨m1, m2, ⟨K, N, m3, m4, m5⟩, m6, m7⟩ := hm
  refine ⟨⟨K, N, m3.move (hg.block tb m3.tc.lt (fun e => (h.xnb tb e.symm).1 rfl)) (hg.block mb m3.mc.lt (fun e => (h.xnb mb e.symm).2.1 rfl)), m4, m5⟩, m1.move fun g e => hg.block g (m1.ge g e).2 (fun q => (h.xnb g q.symm).2.2 e), h.nb, hx, ?_, h.len, h.few, fun e _ => absurd e m7, m6.grown hg m6.size (fun g e => (m2.ge g e).1), h.ge⟩
  intro g e
  rcases hb with q | q
  · exact h.xnb g (q ▸ e)
  · rw [q] at e
    obtain rfl := Option.some.inj e
    refine ⟨fun e2 => ?_, fun e2 => ?_, fun e2 => ?_⟩
    · have := m3.tc.lt; omega
    · have := m3.mc.lt; omega
    · have := (m1.ge _ e2).2; omega
end
section
set_option maxRecDepth 20000
set_option maxHeartbeats 3200000
theorem deadlaw_any (d : Int) (A : Option Addr) (l : List PAct) (c : Nat) (A2 : Option Addr) (rs : List Nat) (c2 : Nat) (w : World) (hl : ActsAt w w.heap.size A l) (hr : RU w A2 rs) :
    Calls Try.prog 6 #[.int .i64 d, .slice A l.length c, .slice A2 rs.length c2] w fun e w' => e = .returned (.bool true) ∧ Below w.heap.size w w' := by
  have HK := Lib.hid (known_any w)
  obtain ⟨n1, hn1⟩ : ∃ n, n = l.length := ⟨_, rfl⟩
  obtain ⟨n2, hn2⟩ : ∃ n, n = rs.length := ⟨_, rfl⟩
  rw [← hn1, ← hn2]
  have Hn1 := Lib.hid hn1
  have Hn2 := Lib.hid hn2
  have Hl := Lib.hid hl
  have Hr := Lib.hid hr
  clear hl hr hn1 hn2
  by_cases c0 : 100 < (n1 : Int)
  case pos =>
    have c0n : 100 < n1 := by omega
    go_enter Try.func6, Try.ntmps6
    go_wp2_with fail
    refine HK.out.mono ?_
    rintro e w1 ⟨rfl, hb1⟩
    have Hb1 := Lib.hid hb1
    clear hb1 HK
    go_wp2_with fail
    go_ret
    exact ⟨rfl, Hb1.out⟩
  by_cases c1 : 100 < (n2 : Int)
  case pos =>
    have c1n : 100 < n2 := by omega
    have c0n : ¬ 100 < n1 := by omega
    go_enter Try.func6, Try.ntmps6
    go_wp2_with fail
    refine HK.out.mono ?_
    rintro e w1 ⟨rfl, hb1⟩
    have Hb1 := Lib.hid hb1
    clear hb1 HK
    go_wp2_with fail
    go_ret
    exact ⟨rfl, Hb1.out⟩
  have e0 : decide (100 < (n1 : Int)) = false := decide_eq_false c0
  have e1 : decide (100 < (n2 : Int)) = false := decide_eq_false c1
  have e2 : decide (100 < n1) = false := decide_eq_false (by omega)
  have e3 : decide (100 < n2) = false := decide_eq_false (by omega)
  have Hnum : Hid (n1 ≤ 100 ∧ n2 ≤ 100) := (show _ ∧ _ from ⟨by omega, by omega⟩)
  by_cases hd : 1 ≤ d ∧ d ≤ 64
  case neg =>
    have Hbad := Lib.hid fun w => new_bad d hd w
    have c0n : ¬ 100 < n1 := by omega
    have c1n : ¬ 100 < n2 := by omega
    clear hd
    go_enter Try.func6, Try.ntmps6
    go_wp2_with fail
    refine HK.out.mono ?_
    rintro e w1 ⟨rfl, hb1⟩
    have Hb1 := Lib.hid hb1
    clear hb1 HK
    go_wp2_with fail
    refine (Hbad.out w1).mono ?_
    rintro e w2 ⟨rfl, rfl⟩
    go_wp2_with fail
    go_ret
    exact ⟨rfl, Hb1.out⟩
  obtain ⟨dep, rfl⟩ : ∃ k : Nat, d = (k : Int) := ⟨d.toNat, by omega⟩
  have Hnew := Lib.hid fun w => new_any dep (by omega) (by omega) w
  have Hdep : Hid (1 ≤ dep ∧ dep ≤ 64) := (show _ ∧ _ from ⟨by omega, by omega⟩)
  have c0n : ¬ 100 < n1 := by omega
  have c1n : ¬ 100 < n2 := by omega
  clear hd
  go_enter Try.func6, Try.ntmps6
  go_wp2_with fail
  refine HK.out.mono ?_
  rintro e w1 ⟨rfl, hb1⟩
  have Hb1 := Lib.hid hb1
  clear hb1 HK
  go_wp2_with fail
  refine (Hnew.out w1).mono ?_
  rintro e w2 ⟨tb, mb, rfl, h2, hb2, m1, m2⟩
  have H2 : Hid (ApSt w w2 tb mb dep 1 [] 0 0) := ⟨h2, ok_new Hdep.out.1 Hdep.out.2, by omega, by omega, Hb1.out.trans (hb2.mono Hb1.out.size), by have := Hb1.out.size; omega, by have := Hb1.out.size; omega⟩
  clear h2 hb2 m1 m2 Hb1 Hnew
  go_wp2_with fail
  clear c0 c1 e0 e1 e2 e3 c0n c1n
  go_loopw [9] (fun iv wr => ∃ (i nxt : Nat) (L : List Md) (N : Nat), iv = .int .i64 (i : Int) ∧ i ≤ n1 ∧ Hid (ApSt w wr tb mb dep nxt L N i)) (fun iv _ => n1 - (intOf iv).toNat)
  case atStart => exact ⟨0, 1, [], 0, rfl, Nat.zero_le _, H2⟩
  case round =>
    obtain ⟨i, nxt, L, N, rfl, hi, Hs⟩ := hrel
    by_cases hlt : i < n1
    case pos =>
      have hx := List.getElem?_eq_getElem (l := l) (by rw [← Hn1.out]; exact hlt : i < l.length)
      obtain ⟨bl, ol, rfl, hbl, hat⟩ := (Hl.out.below Hs.out.bel) i _ hx
      have k0 := hat.c0
      have k1 := hat.c1
      have k2 := hat.c2
      have k3 := hat.c3
      have k4 := hat.c4
      have hact := (act_any Hs.out.tab Hs.out.ok (by have := Hs.out.hx; have := Hnum.out; omega) (by have := Hs.out.hN; have := Hnum.out; omega) l[i] hat.ha)
      generalize l[i] = x at *
      unfold actV at hact
      have Hact := Lib.hid hact
      have hn100 : (n1 : Int) ≤ 100 := by have := Hnum.out; omega
      clear hat hbl hx hact
      go_wp2_with fail
      refine Hact.out.mono ?_
      rintro e w3 ⟨rfl, h3⟩
      have H3 := Lib.hid (Hs.out.act x ⟨rfl, h3⟩)
      clear h3 Hact Hs k0 k1 k2 k3 k4
      go_wp2_with fail
      go_roundw
      case rel => exact ⟨i + 1, _, _, _, (by first | rfl | simp), by omega, H3⟩
      case measure => simp [intOf]; omega
    case neg =>
    obtain rfl : i = n1 := by omega
    clear hlt hi H2 w2
    have hLn : L.length ≤ 101 := by have := Hs.out.ok.len; have := Hs.out.hx; have := Hnum.out; omega
    have hi2 : ¬ (i : Int) < (i : Int) := by omega
    have hrl : rs.length ≤ 1000 := by have := Hnum.out; have := Hn2.out; omega
    have Hdd := Lib.hid (dead_any (cap := c2) Hs.out.tab Hs.out.ok (by have := Hs.out.hx; have := Hnum.out; unfold T64; omega) (by have := Hs.out.hN; have := Hnum.out; omega) (by omega) (Hr.out.below Hs.out.bel) hrl)
    rw [← Hn2.out] at Hdd
    have HLn := Lib.hid hLn
    clear hi2 hrl hLn
    go_wp2_with fail
    refine Hdd.out.mono ?_
    rintro e w3 ⟨v, rfl, ov, b3⟩
    have hov : OwnN w3 wr.heap.size v (deadL L rs) := ov
    obtain ⟨A3, c3, rfl⟩ := hov.cap
    obtain ⟨dl, hdl⟩ : ∃ n, n = (deadL L rs).length := ⟨_, rfl⟩
    rw [← hdl] at hov ⊢
    have hdlL : dl ≤ L.length := by rw [hdl]; unfold deadL; refine Nat.le_trans (List.length_filter_le _ _) ?_; rw [List.length_map]; exact Nat.le_refl _
    have H3 : Hid (ApSt w w3 tb mb dep nxt L N i ∧ OwnN w3 wr.heap.size (.slice A3 dl c3) (deadL L rs) ∧ dl = (deadL L rs).length ∧ dl ≤ L.length) := ⟨Hs.out.below b3, hov, hdl, hdlL⟩
    have Hsz := Lib.hid (And.intro Hs.out.bel.size b3.size)
    have Hli := Lib.hid (list_any H3.out.1.tab H3.out.1.ok (by have := H3.out.1.hx; have := Hnum.out; unfold T64; omega) (by have := H3.out.1.hN; have := Hnum.out; omega) (by have := HLn.out; omega))
    clear ov hov b3 Hs Hdd hdl hdlL
    go_wp2_with fail
    refine Hli.out.mono ?_
    rintro e w4 ⟨v4, rfl, ov4, b4⟩
    obtain ⟨A4, c4, rfl⟩ := ov4.shape
    have H4 : Hid (ApSt w w4 tb mb dep nxt L N i ∧ OwnN w4 wr.heap.size (.slice A3 dl c3) (deadL L rs) ∧ w3.heap.size ≤ w4.heap.size) := ⟨H3.out.1.below b4, H3.out.2.1.below b4, b4.size⟩
    obtain ⟨Ll, hLl⟩ : ∃ n, n = L.length := ⟨_, rfl⟩
    rw [← hLl] at ov4 ⊢
    have HLl := Lib.hid hLl
    have hLl100 : Ll ≤ 101 := by rw [hLl]; exact HLn.out
    have Hdl : Hid (dl = (deadL L rs).length ∧ dl ≤ 101) := ⟨H3.out.2.2.1, by have := H3.out.2.2.2; omega⟩
    clear ov4 b4 Hli H3 hLl
    have Hmade := Lib.hid (OwnN.made w4 w.heap.size H4.out.1.bel.size)
    have Hx := Lib.hid (H4.out.2.1.below ((Below.refl _ w4).alloc (Nat.le_refl _) (.cells #[] 34)))
    have Hs1 : Hid (([] : List Nat).length + (deadL L rs).length ≤ 1000000 ∧ w.heap.size ≤ (w4.alloc (.cells #[] 34)).heap.size) := ⟨by have := Hdl.out; simp; omega, by have := H4.out.1.bel.size; simp; omega⟩
    go_wp2_with (at_builtin; go_must (refine app_nums rfl (.tmp 51) (.tmp 52) rfl w.heap.size wr.heap.size _ _ [] (deadL L rs) rfl Hmade.out rfl Hx.out Hs1.out.1 Hs1.out.2 ?_); intro v5 w5 hv5 hg5 hb5; have H5 := Lib.hid (And.intro hv5 (And.intro hg5 hb5)); clear hv5 hg5 hb5)
    obtain ⟨A5, c5, rfl⟩ := (show OwnN w5 w.heap.size v5 (deadL L rs) from H5.out.1).cap
    have HT : Hid (TuSt w w5 tb mb dep nxt L rs 0 (.slice A5 (deadL L rs).length c5) (deadL L rs) ∧ Ok dep nxt L) := by
      obtain ⟨q1, q2, q3⟩ := H5.out
      have h := H4.out.1
      have l1 := h.tab.tc.lt
      have l2 := h.tab.mc.lt
      have ht := h.tab.alloc (.cells #[] 34)
      refine ⟨⟨⟨L, N, ht.move (q2.block tb ht.tc.lt (fun e => ?_)) (q2.block mb ht.mc.lt (fun e => ?_)), h.ok, ⟨fun _ q => q, fun _ q _ => q⟩, rfl, by have := h.hN; have := Hnum.out; omega⟩, q1, fun g e => ?_, Nat.le_refl _, Hdl.out.1 ▸ Hdl.out.2, (h.bel.alloc h.bel.size _).grown q2 (h.bel.alloc h.bel.size _).size (fun g e => ?_), ⟨h.h1, h.h2⟩⟩, h.ok⟩
      · have e' : some tb = some w4.heap.size := e
        injection e' with e'; omega
      · have e' : some mb = some w4.heap.size := e
        injection e' with e'; omega
      · have q4 : g = w4.heap.size ∨ g = w4.heap.size + 1 := by
          rcases q3 with q | q
          · have e' : some w4.heap.size = some g := q.symm.trans e
            injection e' with e'; exact .inl e'.symm
          · have e' : some (w4.alloc (.cells #[] 34)).heap.size = some g := q.symm.trans e
            injection e' with e'; exact .inr (by rw [← e']; simp)
        omega
      · have e' : some w4.heap.size = some g := e
        injection e' with e'; have := h.bel.size; omega
    have HdlL := Lib.hid (And.intro Hdl.out.1 Hdl.out.2)
    rw [← Hdl.out.1] at HT ⊢
    have hdl101 : dl ≤ 101 := Hdl.out.2
    have HX : Hid (nxt ≤ 101) := (show nxt ≤ 101 by have := H4.out.1.hx; have := Hnum.out; omega)
    clear H5 H4 Hmade Hx Hs1 Hdl
    go_wp2_with fail
    go_loopw [12, 13] (fun lv tv wr => ∃ (k : Nat) (ns : List Nat), tv = .int .i64 (k : Int) ∧ k ≤ dl ∧ Hid (TuSt w wr tb mb dep nxt L rs k lv ns)) (fun _ tv _ => dl + 1 - (intOf tv).toNat)
    case atStart => exact ⟨0, deadL L rs, rfl, Nat.zero_le _, HT.out.1⟩
    case round =>
      obtain ⟨k, ns, rfl, hk, Hs⟩ := hrel
      have HO := Lib.hid HT.out.2
      clear HT w5
      obtain ⟨A6, c6, rfl⟩ := Hs.out.own.cap
      have hk101 : (k : Int) ≤ 101 := by omega
      have hdi : (dl : Int) ≤ 101 := by omega
      have hkd : (k : Int) ≤ (dl : Int) := by omega
      obtain ⟨q, hq⟩ : ∃ n, n = ns.length := ⟨_, rfl⟩
      have Hs2 := Lib.hid Hs.out
      have Hq := Lib.hid hq
      rw [← hq] at Hs2 ⊢
      have hq101 : q ≤ 101 := by have := Hs.out.len; have := Hs.out.few; omega
      have hqk : q = 0 ∨ k < dl := by have := Hs.out.len; rw [← HdlL.out.1] at this; omega
      clear hq Hs
      by_cases hq0 : q = 0
      case pos =>
        subst hq0
        have hns : ns = [] := List.eq_nil_of_length_eq_zero Hq.out.symm
        obtain ⟨K, N2, h1, h2, h3, h4, -⟩ := Hs2.out.ex
        rw [hns] at h4
        have hall : ∀ m ∈ K, aliveL L rs m.id = true := fun m hm => by
          cases hA : aliveL L rs m.id with
          | true => rfl
          | false =>
            have : m.id ∈ deadK L K rs := mem_deadK.2 ⟨⟨m, hm, rfl⟩, hA⟩
            rw [h4] at this; cases this
        have hcn := h3.count HO.out h2.rise
        rw [h4] at hcn
        have hKL : K.length ≤ 101 := by have := HLn.out; simp at hcn; omega
        have hkl : K.length + dl = Ll := by have := HdlL.out.1; have := HLl.out; simp at hcn; omega
        have HD : Hid (deadL K rs = []) := h3.done HO.out h2.rise hall
        have HT2 := Lib.hid (And.intro h1.tight h2)
        have HK := Lib.hid hKL
        have HLi := Lib.hid (list_any HT2.out.1 HT2.out.2 (by have := HX.out; unfold T64; omega) (by have := HK.out; omega) (by have := HK.out; omega))
        have Hb := Lib.hid Hs2.out.bel
        obtain ⟨kl, hkl2⟩ : ∃ n, n = K.length := ⟨_, rfl⟩
        rw [← hkl2] at hkl hKL
        have HKl := Lib.hid hkl2
        have z1 : decide ((kl : Int) = (Ll : Int) - (dl : Int)) = true := decide_eq_true (by omega)
        have z2 : ((kl : Int) == (Ll : Int) - (dl : Int)) = true := by simpa using z1
        have z3 : (kl : Int) ≤ 101 := by omega
        have z4 : 0 ≤ (Ll : Int) - (dl : Int) := by omega
        have z5 : (Ll : Int) ≤ 101 := by omega
        clear Hs2 h1 h2 h3 h4 hall hcn hns hkl2 hkl hqk hq101 hKL
        go_wp2_with fail
        refine HLi.out.mono ?_
        rintro e w8 ⟨v8, rfl, ov8, b8⟩
        obtain ⟨A8, c8, rfl⟩ := ov8.shape
        rw [← HKl.out]
        have hrl : rs.length ≤ 1000 := by have := Hnum.out; have := Hn2.out; omega
        have HDd := Lib.hid (dead_any (cap := c2) (HT2.out.1.below b8) HT2.out.2 (by have := HX.out; unfold T64; omega) (by have := HK.out; omega) (by have := HK.out; omega) ((Hr.out.below Hb.out).below b8) hrl)
        rw [← Hn2.out] at HDd
        have Hb8 : Hid (Below w.heap.size w w8) := Hb.out.trans (b8.mono Hb.out.size)
        clear ov8 b8 hrl HLi
        go_wp2_with fail
        refine HDd.out.mono ?_
        rintro e w9 ⟨v9, rfl, ov9, b9⟩
        rw [HD.out] at ov9
        obtain ⟨A9, c9, rfl⟩ := (show OwnN w9 w8.heap.size v9 [] from ov9).cap
        have Hb9 : Hid (Below w.heap.size w w9) := Hb8.out.trans (b9.mono Hb8.out.size)
        clear ov9 b9 HDd
        go_wp2_with fail
        go_ret
        exact ⟨rfl, Hb9.out⟩
      case neg =>
        have hq1 : 0 < q := by omega
        have hq2 : (0 : Int) < (q : Int) := by omega
        have hq3 : (q : Int) ≤ 101 := by omega
        have hk2 : k < dl := by omega
        clear hqk hq0
        have HI := Lib.hid Hs2.out.start
        have Hne : Hid (ns ≠ [] ∧ q = ns.length) := ⟨fun e => by have := Hq.out; rw [e] at this; simp at this; omega, Hq.out⟩
        clear Hs2
        go_wp2_with fail
        generalize wr = wr0 at *
        go_loopw [14, 15] (fun uv iv wr => ∃ (i : Nat) (nx : List Nat), iv = .int .i64 (i : Int) ∧ i ≤ q ∧ Hid (InSt w wr tb mb dep nxt L rs k (.slice A6 q c6) ns uv nx i)) (fun _ iv _ => q - (intOf iv).toNat)
        case atStart => exact ⟨0, [], rfl, Nat.zero_le _, HI⟩
        case round =>
          obtain ⟨j, nx, rfl, hj, Hw⟩ := hrel
          clear HI wr0
          obtain ⟨A7, c7, rfl⟩ := Hw.out.xown.cap
          by_cases hlt : j < q
          case neg =>
            obtain rfl : j = q := by omega
            have Hn := Lib.hid (Hw.out.stop Hne.out.2 Hne.out.1)
            generalize nx.length = xl at *
            clear Hw hlt hj
            go_wp2_with fail
            go_roundw
            case rel => exact ⟨k + 1, nx, (by first | rfl | simp), by omega, Hn⟩
            case measure => simp [intOf]; omega
          obtain ⟨n, hn⟩ : ∃ n, ns[j]? = some n := ⟨_, List.getElem?_eq_getElem (by rw [← Hne.out.2]; exact hlt)⟩
          obtain ⟨K, N2, hT, hP, hN⟩ := Hw.out.ex
          obtain ⟨b, rfl, hb, hc⟩ := Hw.out.own.at' hn
          have hmem : n ∈ deadK L K rs := by
            rw [hP.ids]
            have hj2 := (List.getElem?_eq_some_iff.1 hn)
            obtain ⟨hj3, e⟩ := hj2
            rw [List.drop_eq_getElem_cons hj3, e]
            simp
          obtain ⟨⟨u, hu, hun⟩, -⟩ := mem_deadK.1 hmem
          have hlk : look K n = some u := by rw [← hun]; exact look_of_mem hP.ok.rise hu
          have hn64 : n < T64 := by have := hP.ok.hi u hu; have := HX.out; unfold T64; omega
          have hNb : N2 < 900000 := by have := Hw.out.few; have := Hw.out.len; omega
          have hdr := drop_any hT hP.ok (by have := HX.out; omega) hNb hn64
          have HP := Lib.hid (And.intro hP (And.intro hN hn))
          have hj101 : (j : Int) ≤ 101 := by omega
          have hlti : (j : Int) < (q : Int) := by omega
          have Hj := Lib.hid hlt
          by_cases hup : 0 < ups K n
          case neg =>
            have hz : ups K n = 0 := by omega
            have e1 : dropE K n = 0 := by unfold dropE; rw [hlk]; simp [hup]
            have e2 : dropA K n = dropL K n := by unfold dropA; rw [if_pos e1]
            rw [e1, e2] at hdr
            have Hdr := Lib.hid hdr
            have Hz := Lib.hid hz
            clear hdr hT hP hN hb hmem hu hun hlk hup hz e1 e2 hn hlt
            go_wp2_with fail
            refine Hdr.out.mono ?_
            rintro e w6 ⟨rfl, h6, k6⟩
            have H6 := Lib.hid (Hw.out.go HP.out.1 HP.out.2.1 HP.out.2.2 Hz.out h6 k6)
            generalize nx.length = xl at *
            clear h6 k6 Hdr Hw HP hc
            go_wp2_with fail
            go_roundw
            case rel => exact ⟨j + 1, nx, (by first | rfl | simp), Hj.out, H6⟩
            case measure => have := Hj.out; simp [intOf]; omega
          case pos =>
            have e1 : dropE K n = 9 := by unfold dropE; rw [hlk]; simp [hup]
            have e2 : dropA K n = K := by unfold dropA; rw [e1]; rfl
            rw [e1, e2] at hdr
            have Hdr := Lib.hid hdr
            have Hup := Lib.hid hup
            have hxl : nx.length ≤ 101 := by have := hP.len; omega
            clear hdr hT hP hN hb hmem hu hun hlk hup e1 e2 hn hlt
            go_wp2_with fail
            refine Hdr.out.mono ?_
            rintro e w6 ⟨rfl, h6, k6⟩
            have H6 := Lib.hid (Hw.out.mid HO.out HP.out.1 HP.out.2.1 HP.out.2.2 Hup.out h6 k6)
            have hc6 : w6.cell? ⟨b, j, none⟩ = some (.int .u64 (n : Int)) := by
              obtain ⟨b', e2, _, h3⟩ := H6.out.1.at' HP.out.2.2
              injection e2 with e2
              injection e2 with e2
              subst e2
              exact h3
            have Hs1 : Hid ((nx.map kV).length + 1 ≤ 140737488355327 ∧ ((nx.map kV).length + 1) * 8 ≤ 140737488355328 ∧ w.heap.size ≤ (w6.alloc (.cells #[.int .u64 (n : Int)] 34)).heap.size) := ⟨by simp; omega, by simp; omega, by have := H6.out.2.2.2.1.size; simp; omega⟩
            have Ho := Lib.hid (H6.out.2.1.ov.alloc (.cells #[.int .u64 (n : Int)] 34))
            obtain ⟨xl, hxl2⟩ : ∃ x, x = nx.length := ⟨_, rfl⟩
            rw [← hxl2] at hxl Ho ⊢
            have Hxl := Lib.hid hxl2
            clear h6 k6 Hdr hc hxl2
            go_wp2_with (at_builtin; go_must (refine app_one rfl (.tmp 78) (.tmp 83) 23 34 rfl Try.underlying23 (.int .u64 0) 8 info_u64 rfl w.heap.size _ (nx.map kV) rfl Ho.out ⟨w6.heap.size, 0, none⟩ 1 (.int .u64 (n : Int)) rfl (cell_new w6 _ _) rfl Hs1.out.1 Hs1.out.2.1 Hs1.out.2.2 ?_); intro v7 w7 ho7 hg7 hb7; have H7 := Lib.hid (And.intro ho7 (And.intro hg7 hb7)); clear ho7 hg7 hb7)
            have H8 : Hid (InSt w w7 tb mb dep nxt L rs k (.slice (some ⟨b, 0, none⟩) q c6) ns v7 (nx ++ [n]) (j + 1)) := by
              obtain ⟨q1, q2, q3⟩ := H7.out
              obtain ⟨m1, m2, ⟨K3, N3, m3, m4, m5⟩, m6, m7⟩ := H6.out
              have hA : Below w6.heap.size w6 (w6.alloc (.cells #[.int .u64 (n : Int)] 34)) := (Below.refl _ _).alloc (Nat.le_refl _) _
              refine Hw.out.grow (w5 := w6.alloc (.cells #[.int .u64 (n : Int)] 34)) ⟨m1.below hA, ?_, ⟨K3, N3, m3.alloc _, m4, m5⟩, m6.alloc m6.size _, m7⟩ (OwnN.of (by rw [List.map_append]; exact q1)) ?_ ?_
              · rw [← Hxl.out]; exact OwnN.of (Ho.out)
              · rw [← Hxl.out]; exact q2
              · rw [← Hxl.out]; exact q3
            generalize (nx ++ [n]) = nx2 at *
            clear H7 H6 Ho Hs1 Hw HP
            go_wp2_with fail
            go_roundw
            case rel => exact ⟨j + 1, nx2, (by first | rfl | simp), Hj.out, H8⟩
            case measure => have := Hj.out; simp [intOf]; omega
end
end Go.Proofs.Ytejimgjonhaocaa

/-
  AllocOnce, walked.
-/
import Derived.Test.YtffmipmkbbholaaAlOnceSt
namespace Go.Proofs.Ytffmipmkbbholaa
open Go.RowKit Go.Maps Go.Shelf Go.Lib Go.Sort

/-- block b is as it was -/
def SameB1 (w w' : World) (b : Nat) : Prop := w'.heap[b]? = w.heap[b]?
/-- what a list may be -/
def ListOk (D Z n : Nat) (l : List (Int × Int)) : Prop := l.length ≤ n ∧ ∀ u ∈ l, ∃ d z : Nat, d < D ∧ z < Z ∧ u = ((d : Int), (z : Int))
section
set_option maxRecDepth 100000
set_option maxHeartbeats 8000000
theorem allocOnce_any (x y n : Int) (A : Option Addr) (c m : Nat) (ps : List Int) (hm : m = ps.length) (w : World) (hr : RI w w.heap.size A ps) :
    Calls Try.prog 5 #[.int .i64 x, .int .i64 y, .int .i64 n, .slice A m c] w fun e w' => e = .returned (.bool true) ∧ Below w.heap.size w w' := by
  have Hk := Lib.hid (known_any w)
  by_cases c0 : x < 1
  case pos =>
    clear hr hm
    go_enter Try.func5, Try.ntmps5
    go_wp2_with fail
    refine Hk.out.mono ?_
    rintro e w1 ⟨rfl, hb1⟩
    have Hb1 := Lib.hid hb1
    clear hb1 Hk
    go_wp2_with fail
    go_ret
    exact ⟨rfl, Hb1.out⟩
  by_cases c1 : 16 < x
  case pos =>
    clear hr hm
    go_enter Try.func5, Try.ntmps5
    go_wp2_with fail
    refine Hk.out.mono ?_
    rintro e w1 ⟨rfl, hb1⟩
    have Hb1 := Lib.hid hb1
    clear hb1 Hk
    go_wp2_with fail
    go_ret
    exact ⟨rfl, Hb1.out⟩
  by_cases c2 : y < 1
  case pos =>
    clear hr hm
    go_enter Try.func5, Try.ntmps5
    go_wp2_with fail
    refine Hk.out.mono ?_
    rintro e w1 ⟨rfl, hb1⟩
    have Hb1 := Lib.hid hb1
    clear hb1 Hk
    go_wp2_with fail
    go_ret
    exact ⟨rfl, Hb1.out⟩
  by_cases c3 : 40 < y
  case pos =>
    clear hr hm
    go_enter Try.func5, Try.ntmps5
    go_wp2_with fail
    refine Hk.out.mono ?_
    rintro e w1 ⟨rfl, hb1⟩
    have Hb1 := Lib.hid hb1
    clear hb1 Hk
    go_wp2_with fail
    go_ret
    exact ⟨rfl, Hb1.out⟩
  by_cases c4 : n < 1
  case pos =>
    clear hr hm
    go_enter Try.func5, Try.ntmps5
    go_wp2_with fail
    refine Hk.out.mono ?_
    rintro e w1 ⟨rfl, hb1⟩
    have Hb1 := Lib.hid hb1
    clear hb1 Hk
    go_wp2_with fail
    go_ret
    exact ⟨rfl, Hb1.out⟩
  by_cases c5 : 16 < n
  case pos =>
    clear hr hm
    go_enter Try.func5, Try.ntmps5
    go_wp2_with fail
    refine Hk.out.mono ?_
    rintro e w1 ⟨rfl, hb1⟩
    have Hb1 := Lib.hid hb1
    clear hb1 Hk
    go_wp2_with fail
    go_ret
    exact ⟨rfl, Hb1.out⟩
  by_cases c6 : 200 < (m : Int)
  case pos =>
    clear hr hm
    go_enter Try.func5, Try.ntmps5
    go_wp2_with fail
    refine Hk.out.mono ?_
    rintro e w1 ⟨rfl, hb1⟩
    have Hb1 := Lib.hid hb1
    clear hb1 Hk
    go_wp2_with fail
    go_ret
    exact ⟨rfl, Hb1.out⟩
  obtain ⟨d, rfl⟩ : ∃ d : Nat, x = (d : Int) := ⟨x.toNat, by omega⟩
  obtain ⟨z, rfl⟩ : ∃ z : Nat, y = (z : Int) := ⟨y.toNat, by omega⟩
  obtain ⟨nn, rfl⟩ : ∃ k : Nat, n = (k : Int) := ⟨n.toNat, by omega⟩
  have Hnum : Hid ((1 ≤ d ∧ d ≤ 16) ∧ (1 ≤ z ∧ z ≤ 40) ∧ (1 ≤ nn ∧ nn ≤ 16)) := (show _ ∧ _ ∧ _ from ⟨by omega, by omega, by omega⟩)
  have hm3 : (m : Int) ≤ 200 := by omega
  have Hr := Lib.hid hr
  have Hm := Lib.hid hm
  have Hnew := Lib.hid fun w => new_any d z ⟨by omega, by omega⟩ ⟨by omega, by omega⟩ w
  have hmm := @run_makeMap Try.prog
  clear hr hm
  go_enter Try.func5, Try.ntmps5
  go_wp2_with fail
  refine Hk.out.mono ?_
  rintro e w1 ⟨rfl, hb1⟩
  have Hb1 := Lib.hid hb1
  clear hb1 Hk
  go_wp2_with fail
  refine (Hnew.out _).mono ?_
  rintro e w2 ⟨tb, db, mb, cap, rfl, h2, hb2, n0, n1, n2⟩
  obtain ⟨mM, hM⟩ : ∃ k, k = w2.heap.size := ⟨_, rfl⟩
  obtain ⟨mH, hH⟩ : ∃ k, k = w2.heap.size + 1 := ⟨_, rfl⟩
  obtain ⟨base, hbase⟩ : ∃ k, k = w2.heap.size + 2 := ⟨_, rfl⟩
  have e1 : (w2.alloc (.map #[] 0)).heap.size = w2.heap.size + 1 := by simp
  have HN : Hid (OnceNe w base tb db mb mM mH) := by
    have h1 := h2.tc.lt
    have h3 := h2.dc.lt
    have h4 := h2.mc.lt
    have h5 := Hb1.out.size
    exact ⟨⟨by omega, by omega, by omega, by omega, by omega⟩, ⟨by omega, by omega, by have := hb2.size; omega, by have := hb2.size; omega, by have := hb2.size; omega⟩, ⟨by omega, by omega, by omega, by omega, by omega, by omega, by omega⟩⟩
  have H4 : Hid (OnceSt w ((w2.alloc (.map #[] 0)).alloc (.map #[] 0)) base tb db mb cap d z mM mH (fun _ _ => 0) (bmap (fun _ _ => 0) 1) (bmap (fun _ _ => 0) 2) (.slice none 0 0) []) := by
    have hbm : ∀ k, k ≠ 0 → bmap (fun _ _ => 0) k = fun _ _ => none := fun k hk => by funext a b; simp [bmap]; omega
    rw [hbm 1 (by omega), hbm 2 (by omega)]
    have hbl : Below w.heap.size w w2 := Hb1.out.trans (hb2.mono Hb1.out.size)
    refine ⟨(h2.alloc _).alloc _, ?_, ?_, ⟨_, _, TailU.start _ _⟩, (hbl.alloc hbl.size _).alloc (by rw [e1]; have := hbl.size; omega) _, by simp; omega⟩
    · rw [hM]
      exact (UM.made w2 4 d z (by omega) (by omega)).alloc _
    · rw [hH, ← e1]
      exact UM.made _ 4 d z (by omega) (by omega)
  have hH2 : mH = mM + 1 := by omega
  clear h2 hb2 Hnew Hb1 n0 n1 n2 c0 c1 c2 c3 c4 c5 c6
  go_wp2_with fail
  rw [← hM]
  rw [← hH2]
  clear hM hH hbase hH2 e1
  generalize (w2.alloc (.map #[] 0)).alloc (.map #[] 0) = w4 at *
  clear hmm
  go_loopw [13, 14] (fun sv iv wr => ∃ (i : Nat), iv = .int .i64 (i : Int) ∧ i ≤ m ∧ Hid (∃ g l, OnceSt w wr base tb db mb cap d z mM mH g (bmap g 1) (bmap g 2) sv l ∧ ListOk d z (16 * i) l)) (fun _ iv _ => m - (intOf iv).toNat)
  case atStart => exact ⟨0, rfl, Nat.zero_le _, _, _, H4.out, ⟨by simp, fun u hu => by simp at hu⟩⟩
  case round =>
    clear H4
    obtain ⟨i, rfl, hi, hS⟩ := hrel
    obtain ⟨v, hv⟩ : ∃ v, v = u13 := ⟨_, rfl⟩
    rw [← hv] at hS ⊢
    clear hv
    obtain ⟨g, l, hO, hok⟩ := hS.out
    have HO := Lib.hid hO
    have Hok := Lib.hid hok
    by_cases hlt : i < m
    · as_aux_lemma =>
      obtain ⟨Al, cl, htl⟩ := hO.tail
      have hlt' : (i : Int) < (m : Int) := by omega
      have hip : i < ps.length := by rw [← Hm.out]; exact hlt
      obtain ⟨bp, op, rfl, hbp, kp⟩ := (Hr.out.below hO.bel).flatAt hip
      obtain ⟨p, hp⟩ : ∃ p, p = ps[i] := ⟨_, rfl⟩
      rw [← hp] at kp
      obtain ⟨t3, ht3⟩ : ∃ t3, t3 = p.tmod 3 := ⟨_, rfl⟩
      obtain ⟨t2, ht2⟩ : ∃ t2, t2 = p.tmod 2 := ⟨_, rfl⟩
      have e3 := ht3.symm
      have e2 := ht2.symm
      have e3b : IntKind.i64.wrap t3 = t3 := by
        have h1 := Int.tmod_lt_of_pos p (show (0:Int) < 3 by omega)
        have h2 := Int.lt_tmod_of_pos p (show (0:Int) < 3 by omega)
        rw [IntKind.wrap_i64]; omega
      have e2b : IntKind.i64.wrap t2 = t2 := by
        have h1 := Int.tmod_lt_of_pos p (show (0:Int) < 2 by omega)
        have h2 := Int.lt_tmod_of_pos p (show (0:Int) < 2 by omega)
        rw [IntKind.wrap_i64]; omega
      have hval := htl.val
      obtain ⟨L, hL⟩ : ∃ L, L = l.length := ⟨_, rfl⟩
      rw [← hL] at hval
      have Htl := Lib.hid htl
      have HL := Lib.hid hL
      subst hval
      clear hS hO hok hlt hip hbp hp ht3 ht2 htl hL
      go_upto_region 23 with fail
      go_cut [95] (fun v wx => wx = wr ∧ v = .bool (decide (t3 ≠ 0 ∨ L = 0)))
      case first => as_aux_lemma =>
        by_cases q1 : t3 = 0
        · have q1' : (t3 == 0) = true := by simpa using q1
          by_cases q2 : L = 0
          · have Q : Hid (t3 ≠ 0 ∨ L = 0) := .inr q2
            subst q1
            have q3 : ((L : Int) == 0) = true := by simp [q2]
            have q3' : (L : Int) = 0 := by omega
            clear q2
            go_wp2_with fail
            go_meet
            exact ⟨rfl, by rw [decide_eq_true Q.out]⟩
          · have Q : Hid (¬ (t3 ≠ 0 ∨ L = 0)) := fun h => h.elim (fun h => h q1) q2
            have q3 : ((L : Int) == 0) = false := by simp [q2]
            have q3' : ¬ (L : Int) = 0 := by omega
            go_wp2_with fail
            go_meet
            exact ⟨rfl, by rw [decide_eq_false Q.out]⟩
        · have Q : Hid (t3 ≠ 0 ∨ L = 0) := .inl q1
          have q1' : (t3 == 0) = false := by simpa using q1
          go_wp2_with fail
          go_meet
          exact ⟨rfl, by rw [decide_eq_true Q.out]⟩
      case rest =>
        obtain ⟨rfl, rfl⟩ := hcut
        by_cases hbr : t3 ≠ 0 ∨ L = 0
        · rw [decide_eq_true hbr]
          clear hbr
          have Htk := Lib.hid (take_call none 0 0 (nn : Int) [] rfl (by omega) (RI.nil _ _ _) HO.out.tab)
          have Hbase := Lib.hid HO.out.base
          go_wp2_with fail
          refine Htk.out.mono ?_
          rintro e w5 ⟨v5, us, er, g', rfl, hT, h5, hk5, ho5⟩
          have hO5 := HO.out.table HN.out h5 hk5
          clear Htk
          rcases hT with ⟨hbad, _⟩ | ⟨_, M, hp, ha, ⟨_, rfl, rfl, rfl⟩ | ⟨hge, L5, hL5, hasc, rfl, rfl, rfl⟩⟩
          · exact absurd (by have := Hnum.out; omega) hbad
          · as_aux_lemma =>
            have Hfin := Lib.hid hO5
            clear hO5 h5 hk5 ho5 hp ha
            go_wp2_with fail
            go_roundw
            case rel => exact ⟨i + 1, by go_num, by omega, _, _, Hfin.out, ⟨by have := Hok.out.1; omega, Hok.out.2⟩⟩
            case measure => simp [intOf]; omega
          · as_aux_lemma =>
            rw [Int.toNat_natCast] at hL5
            have hLn : L5.length = nn := by
              have := hL5.length_eq
              simp at this
              omega
            have hmem : ∀ e ∈ L5, e < d ∧ 0 < cnt (g e) 0 z := fun e he => by
              have h1 : (e : Int) ∈ M := List.mem_of_mem_take (hL5.mem_iff.1 (List.mem_map.2 ⟨e, he, rfl⟩))
              obtain ⟨e', h2, h3, h4, _⟩ := (roomyL_mem g z [] d e).1 (hp.mem_iff.1 h1)
              obtain rfl : e = e' := by omega
              exact ⟨h2, h4⟩
            have hul : (tookU g z L5).length = nn := by unfold tookU; simp; exact hLn
            obtain ⟨gb, cb, rfl, hcb, hgb, hgl, hcell⟩ := ho5.flat (by intro q; rw [q] at hul; simp at hul; have := Hnum.out; omega)
            rw [hul] at hcb ⊢
            have hnd : L5.Nodup := hasc.imp fun h => by omega
            have HL5 : Hid (∀ k (hk : k < L5.length), L5[k] < d ∧ low (g L5[k]) z < z ∧ g L5[k] (low (g L5[k]) z) = 0 ∧ takeAll g z (L5.take k) L5[k] = g L5[k]) := fun k hk => by
              obtain ⟨h1, h2⟩ := hmem L5[k] (List.getElem_mem hk)
              have h3 := (low_free (g L5[k]) z).2 h2
              refine ⟨h1, h3, low_at _ _ h3, takeAll_row z L5[k] (L5.take k) g (fun hm => ?_)⟩
              obtain ⟨k', hk', e⟩ := List.getElem_of_mem hm
              have hk2 : k' < k := by simp at hk'; omega
              rw [List.getElem_take] at e
              have := List.pairwise_iff_getElem.1 hasc k' k (by omega) hk hk2
              omega
            have Hcell : Hid (∀ k (hk : k < L5.length), w5.cell? ⟨gb, k * 2, none⟩ = some (.int .i64 (L5[k] : Nat)) ∧ w5.cell? ⟨gb, k * 2 + 1, none⟩ = some (.int .i64 (low (g L5[k]) z : Nat))) := fun k hk => hcell k (((L5[k] : Nat) : Int), ((low (g L5[k]) z : Nat) : Int)) (by unfold tookU; rw [List.getElem?_map, List.getElem?_eq_getElem hk]; rfl)
            have H5 : Hid (∃ l5 A5 c5, OnceSt w w5 base tb db mb cap d z mM mH (takeAll g z L5) (bmap (takeAll g z (L5.take 0)) 1) (bmap g 2) (.slice Al L cl) l5 ∧ TailU w5 base (.slice Al L cl) l5 A5 c5 ∧ (∀ a, A5 = some a → a.block ≠ gb) ∧ SameB1 w5 w5 gb ∧ ListOk d z (16 * i + 0) l5) :=
              ⟨l, Al, cl, hO5, Htl.out.move hk5.size (fun a e => hk5.block _ (Htl.out.own a e).2.1 (by have h1 := (Htl.out.own a e).1; have h2 := HN.out.lt; exact ⟨by omega, by omega⟩)), fun a e => by have := (Htl.out.own a e).2.1; omega, rfl, Hok.out⟩
            have Hgb : Hid (base ≤ gb ∧ gb < w5.heap.size) := ⟨by have := Hbase.out; omega, hgl⟩
            have Hlen := Lib.hid hLn
            have Hb2 : Hid (bmap g 2 = bmap (takeAll g z L5) 2) := (takeAll_bmap2 z L5 g hnd (fun e he => (hmem e he).2)).symm
            have hnn32 : (nn : Int) ≤ 16 := by have := Hnum.out; omega
            clear hO5 h5 hk5 ho5 hp ha hge hL5 hasc hLn hmem hul hgb hgl hcell hnd Htl HO Hok HL Hbase
            go_wp2_with fail
            go_loopw [13, 17] (fun sv iv wr => ∃ (k : Nat), iv = .int .i64 (k : Int) ∧ k ≤ nn ∧ Hid (∃ l5 A5 c5, OnceSt w wr base tb db mb cap d z mM mH (takeAll g z L5) (bmap (takeAll g z (L5.take k)) 1) (bmap g 2) sv l5 ∧ TailU wr base sv l5 A5 c5 ∧ (∀ a, A5 = some a → a.block ≠ gb) ∧ SameB1 w5 wr gb ∧ ListOk d z (16 * i + k) l5)) (fun _ iv _ => nn - (intOf iv).toNat)
            case atStart => exact ⟨0, rfl, Nat.zero_le _, H5.out⟩
            case round =>
              clear H5
              obtain ⟨k, rfl, hk, hS⟩ := hrel
              obtain ⟨v, hv⟩ : ∃ v, v = u13 := ⟨_, rfl⟩
              rw [← hv] at hS ⊢
              clear hv
              obtain ⟨l5, A5, c5, hO, htl, hA5, hsb, hok⟩ := hS.out
              unfold SameB1 at hsb
              by_cases hlt : k < nn
              · as_aux_lemma =>
                have hkL : k < L5.length := by have := Hlen.out; omega
                have hlt' : (k : Int) < (nn : Int) := by omega
                obtain ⟨q1, q2, q3, q4⟩ := HL5.out k hkL
                have e0 := (Hcell.out k hkL).1
                have e1 := (Hcell.out k hkL).2
                obtain ⟨dk, hdk⟩ : ∃ dk, dk = L5[k] := ⟨_, rfl⟩
                obtain ⟨zk, hzk⟩ : ∃ zk, zk = low (g L5[k]) z := ⟨_, rfl⟩
                rw [← hzk] at q2 q3 e1
                rw [← hdk] at q1 q3 q4 e0
                have x0 : wr.cell? ⟨gb, k * 2, none⟩ = some (.int .i64 (dk : Int)) := (World.cell?_of_block (w := w5) hsb).trans e0
                have x1 : wr.cell? ⟨gb, k * 2 + 1, none⟩ = some (.int .i64 (zk : Int)) := (World.cell?_of_block (w := w5) hsb).trans e1
                have hz40 := Hnum.out
                have hlk1 : (Instr.lookup 56 (.map (some mM)) (.agg #[.int .i64 (dk : Int), .int .i64 (zk : Int)]) false).run Try.prog wr = .ok (.bool false) wr :=
                  hO.mine.lookB Try.underlying56 (d := dk) (z := zk) (by omega) (by omega) (c := false) (by rw [bmap_get, q4, q3]; rfl)
                have hlk2 : (Instr.lookup 56 (.map (some mH)) (.agg #[.int .i64 (dk : Int), .int .i64 (zk : Int)]) false).run Try.prog wr = .ok (.bool false) wr :=
                  hO.held.lookB Try.underlying56 (d := dk) (z := zk) (by omega) (by omega) (c := false) (by rw [bmap_get, q3]; rfl)
                have Hum := Lib.hid hO.mine
                have Hqq := Lib.hid (And.intro q1 q2)
                have hgwr : gb < wr.heap.size := by
                  rcases Nat.lt_or_ge gb wr.heap.size with h | h
                  · exact h
                  · rw [Array.getElem?_eq_none h, Array.getElem?_eq_getElem Hgb.out.2] at hsb
                    cases hsb
                have Hst6 : Hid (∀ w6, UM w6 mM 4 (upd (bmap (takeAll g z (L5.take k)) 1) dk zk (some (.lit (.bool true)))) d z → wr.mapTurned w6 mM → w6.cell? ⟨gb, k * 2, none⟩ = some (.int .i64 (dk : Int)) ∧ w6.cell? ⟨gb, k * 2 + 1, none⟩ = some (.int .i64 (zk : Int)) ∧ OnceSt w w6 base tb db mb cap d z mM mH (takeAll g z L5) (bmap (takeAll g z (L5.take (k + 1))) 1) (bmap g 2) v l5 ∧ TailU w6 base v l5 A5 c5 ∧ w6.heap[gb]? = w5.heap[gb]?) := by
                  intro w6 hum hmt
                  have hgk : w6.heap[gb]? = wr.heap[gb]? := hmt.grown.block gb hgwr (fun e => by cases e; have := HN.out.lt; have := Hgb.out; omega)
                  have hbm : upd (bmap (takeAll g z (L5.take k)) 1) dk zk (some (.lit (.bool true))) = bmap (takeAll g z (L5.take (k + 1))) 1 := by
                    have e1 : L5.take (k + 1) = L5.take k ++ [L5[k]] := by rw [List.take_add_one, List.getElem?_eq_getElem hkL]; rfl
                    rw [e1, takeAll_snoc, ← hdk]
                    unfold takeU
                    rw [q4, bmap_same, hzk, hdk]
                  rw [hbm] at hum
                  exact ⟨(World.cell?_of_block hgk).trans x0, (World.cell?_of_block hgk).trans x1, hO.mineTo HN.out hum hmt, htl.move hmt.grown.size (fun a e => hmt.grown.block _ (htl.own a e).2.1 (fun e' => by cases e'; have := (htl.own a e).1; have := HN.out.lt; omega)), hgk.trans hsb⟩
                have Hn7 : Hid (∀ w6 v7 w7 A7 c7, OnceSt w w6 base tb db mb cap d z mM mH (takeAll g z L5) (bmap (takeAll g z (L5.take (k + 1))) 1) (bmap g 2) v l5 ∧ TailU w6 base v l5 A5 c5 ∧ w6.heap[gb]? = w5.heap[gb]? → TailU w7 base v7 (l5 ++ [((dk : Int), (zk : Int))]) A7 c7 → (w6.alloc (.cells #[.int .i64 (dk : Int), .int .i64 (zk : Int)] 24)).grownBy w7 (A5.map (·.block)) → (A7 = A5 ∨ A7 = some ⟨(w6.alloc (.cells #[.int .i64 (dk : Int), .int .i64 (zk : Int)] 24)).heap.size, 0, none⟩) →
                    ∃ l5 A5 c5, OnceSt w w7 base tb db mb cap d z mM mH (takeAll g z L5) (bmap (takeAll g z (L5.take (k + 1))) 1) (bmap g 2) v7 l5 ∧ TailU w7 base v7 l5 A5 c5 ∧ (∀ a, A5 = some a → a.block ≠ gb) ∧ SameB1 w5 w7 gb ∧ ListOk d z (16 * i + (k + 1)) l5) := by
                  rintro w6 v7 w7 A7 c7 ⟨h1, h2, h3⟩ h4 h5 h6
                  have hal := h1.alloc HN.out (.cells #[.int .i64 (dk : Int), .int .i64 (zk : Int)] 24)
                  have htl2 : TailU (w6.alloc (.cells #[.int .i64 (dk : Int), .int .i64 (zk : Int)] 24)) base v l5 A5 c5 := h2.move (by simp) (fun a e => Below.heap_alloc _ _ _ (h2.own a e).2.1)
                  have hg6 : gb < w6.heap.size := by
                    rcases Nat.lt_or_ge gb w6.heap.size with h | h
                    · exact h
                    · rw [Array.getElem?_eq_none h, Array.getElem?_eq_getElem Hgb.out.2] at h3
                      cases h3
                  refine ⟨_, A7, c7, hal.listTo HN.out htl2 h4 h5, h4, fun a e => ?_, ?_, ?_, ?_⟩
                  · rcases h6 with rfl | rfl
                    · exact hA5 a e
                    · cases e
                      simp
                      omega
                  · show w7.heap[gb]? = w5.heap[gb]?
                    refine (h5.block gb (by simp; omega) (fun e => ?_)).trans ((Below.heap_alloc _ _ _ hg6).trans h3)
                    rcases A5 with _ | a
                    · cases e
                    · exact hA5 a rfl (by simpa using e.symm)
                  · rw [List.length_append, List.length_singleton]; have := hok.1; omega
                  · intro u hu
                    rcases List.mem_append.1 hu with hu | hu
                    · exact hok.2 u hu
                    · exact ⟨dk, zk, q1, q2, by simpa using hu⟩
                have Hlen5 : Hid (l5.length + 1 ≤ 1000000 ∧ base ≤ wr.heap.size) := ⟨by have := hok.1; omega, hO.base⟩
                clear hS hO htl hA5 hsb hok hlt e0 e1 hdk hzk q1 q2 q3 q4 hgwr hz40
                go_wp2_with (first
                  | (refine um_store (e := 4) (t := 56) (d := dk) (z := zk) rfl _ _ _ rfl Try.underlying56 Hum.out Hqq.out.1 Hqq.out.2 (.bool true) (.lit (.bool true)) (plainElem_bool Try.underlying4 true) rfl rfl rfl ?_; intro w6 hum hmt; obtain ⟨y0, y1, hn6⟩ := Hst6.out w6 hum hmt; have Hn6 := Lib.hid hn6; have Hs6 : Hid (wr.heap.size ≤ w6.heap.size) := hmt.grown.size; clear hum hmt hn6 Hst6 x0 x1 hlk1 hlk2)
                  | (at_builtin; go_must (refine tail_app rfl (.tmp 140) (.tmp 145) rfl rfl (Hn6.out.2.1.move (w' := w6.alloc (.cells #[.int .i64 (dk : Int), .int .i64 (zk : Int)] 24)) (by simp) (fun a e => Below.heap_alloc _ _ _ (Hn6.out.2.1.own a e).2.1)) w6.heap.size 1 (dk : Int) (zk : Int) rfl ((Cells.new w6 _ _).cell rfl) ((Cells.new w6 _ _).cell rfl) (by have := Hlen5.out; omega) (by have := Hlen5.out; have := Hs6.out; simp; omega) ?_); intro v7 w7 A7 c7 ht7 hg7 hA7; have H7 := Lib.hid (Hn7.out w6 v7 w7 A7 c7 Hn6.out ht7 hg7 hA7); clear ht7 hg7 hA7 Hn7 Hn6))
                go_roundw
                case rel => exact ⟨k + 1, by go_num, by omega, H7.out⟩
                case measure => simp [intOf]; omega
              · as_aux_lemma =>
                obtain rfl : k = nn := by omega
                have HOf : Hid (OnceSt w wr base tb db mb cap d z mM mH (takeAll g z L5) (bmap (takeAll g z L5) 1) (bmap (takeAll g z L5) 2) v l5) := by
                  have h := hO
                  rw [List.take_of_length_le (by have := Hlen.out; omega), Hb2.out] at h
                  exact h
                have Hokf : Hid (ListOk d z (16 * (i + 1)) l5) := ⟨by have := hok.1; have := Hnum.out; omega, hok.2⟩
                clear hS hO htl hA5 hsb hok hlt
                have Hc1 : Hid (Calls Try.prog 20 #[.pointer (some ⟨tb, 0, none⟩), .int .i64 1] wr fun e w' => e = .returned (.int .i64 (sumN (fun d => cnt ((takeAll g z L5) d) 1 z) d : Nat)) ∧ Below (wr).heap.size (wr) w') := by
                  have h := count_any (1 : Int) HOf.out.tab
                  rw [show countOf (takeAll g z L5) d z 1 = _ from countOf_nat (takeAll g z L5) d z 1 (by omega)] at h
                  exact h
                obtain ⟨T1, hT1⟩ : ∃ T1, T1 = sumN (fun d => cnt ((takeAll g z L5) d) 1 z) d := ⟨_, rfl⟩
                obtain ⟨T2, hT2⟩ : ∃ T2, T2 = sumN (fun d => cnt ((takeAll g z L5) d) 2 z) d := ⟨_, rfl⟩
                have Hc2 : Hid (∀ w1, Below (wr).heap.size (wr) w1 → OnceSt w w1 base tb db mb cap d z mM mH (takeAll g z L5) (bmap (takeAll g z L5) 1) (bmap (takeAll g z L5) 2) v l5 ∧ (∀ ty, (Builtin.len_ #[56] ty #[.map (some mM)]).run Try.prog w1 = .ok (.int .i64 (T1 : Int)) w1) ∧ (∀ ty, (Builtin.len_ #[56] ty #[.map (some mH)]).run Try.prog w1 = .ok (.int .i64 (T2 : Int)) w1) ∧ Calls Try.prog 20 #[.pointer (some ⟨tb, 0, none⟩), .int .i64 2] w1 fun e w' => e = .returned (.int .i64 (T2 : Int)) ∧ Below w1.heap.size w1 w') := fun w1 hb => by
                  have h1 := HOf.out.below HN.out hb
                  refine ⟨h1, fun ty => ?_, fun ty => ?_, ?_⟩
                  · have h := h1.mine.len Try.underlying56 ty
                    rw [bmap_tot, ← hT1] at h
                    exact h
                  · have h := h1.held.len Try.underlying56 ty
                    rw [bmap_tot, ← hT2] at h
                    exact h
                  · have h := count_any (2 : Int) h1.tab
                    rw [show countOf (takeAll g z L5) d z 2 = _ from countOf_nat (takeAll g z L5) d z 2 (by omega), ← hT2] at h
                    exact h
                rw [← hT1] at Hc1
                clear hT1 hT2
                go_wp2_with fail
                refine Hc1.out.mono ?_
                rintro e w11 ⟨rfl, hb11⟩
                obtain ⟨_, hl1, _, hcc2⟩ := Hc2.out w11 hb11
                have Hcc2 := Lib.hid hcc2
                have Hb11 := Lib.hid hb11
                clear hcc2 hb11 Hc1
                go_wp2_with fail
                refine Hcc2.out.mono ?_
                rintro e w12 ⟨rfl, hb12⟩
                obtain ⟨hfin, _, hl2, _⟩ := Hc2.out w12 (Hb11.out.trans (hb12.mono Hb11.out.size))
                have Hfin := Lib.hid hfin
                clear hb12 hfin hl1 Hcc2 Hc2 Hb11
                go_wp2_with fail
                go_roundw
                case rel => exact ⟨i + 1, by go_num, by omega, _, _, Hfin.out, Hokf.out⟩
                case measure => simp [intOf]; omega
        · rw [decide_eq_false hbr]
          have hL0 : 0 < L := by omega
          have ht30 : t3 = 0 := by omega
          have hbr' := hbr
          clear hbr' hbr
          obtain ⟨u, l', rfl⟩ : ∃ u l', l = u :: l' := by
            have := HL.out
            cases l with
            | nil => simp at this; omega
            | cons u l' => exact ⟨u, l', rfl⟩
          by_cases ht : t2 = 0
          · as_aux_lemma =>
            have ht' : (t2 == 0) = true := by simpa using ht
            have hL0' : (0 : Int) < (L : Int) := by omega
            have HLl : Hid (L = l'.length + 1) := (show _ = _ from by have := HL.out; simpa using this)
            obtain ⟨dk, zk, hdk, hzk, rfl⟩ := Hok.out.2 u (by simp)
            obtain ⟨gl, off, cur, rfl, hgl, hsz, hcur⟩ := Htl.out.row (by have := Htl.out.le; simp at this; omega)
            have x0 : wc.cell? ⟨gl, off, none⟩ = some (.int .i64 (dk : Int)) := by simp only [World.cell?, hgl]; exact hcur 0 _ rfl
            have x1 : wc.cell? ⟨gl, off + 1, none⟩ = some (.int .i64 (zk : Int)) := by simp only [World.cell?, hgl]; exact hcur 1 _ rfl
            obtain ⟨Wb, hWb⟩ : ∃ Wb, Wb = wc.alloc (.cells #[.int .i64 (dk : Int), .int .i64 (zk : Int)] 24) := ⟨_, rfl⟩
            have hOb := HO.out.alloc HN.out (.cells #[.int .i64 (dk : Int), .int .i64 (zk : Int)] 24)
            rw [← hWb] at hOb
            have hbox : Cells Wb wc.heap.size 24 [.int .i64 (dk : Int), .int .i64 (zk : Int)] := by rw [hWb]; exact Cells.new wc _ _
            have htb : TailU Wb base (.slice (some ⟨gl, off, none⟩) L cl) (((dk : Int), (zk : Int)) :: l') (some ⟨gl, off, none⟩) cl := Htl.out.move (by rw [hWb]; simp) (fun a e => by rw [hWb]; exact Below.heap_alloc _ _ _ (Htl.out.own a e).2.1)
            obtain ⟨A', hcutr, hcut'⟩ := htb.cut
            obtain ⟨L1, hL1⟩ : ∃ L1, L1 = l'.length := ⟨_, rfl⟩
            rw [← hL1] at hcutr hcut'
            have hOc : OnceSt w Wb base tb db mb cap d z mM mH g (bmap g 1) (bmap g 2) (.slice A' L1 (cl - 1)) l' := ⟨hOb.tab, hOb.mine, hOb.held, ⟨_, _, hcut'⟩, hOb.bel, hOb.base⟩
            have HOd := Lib.hid (hOc.alloc HN.out (.cells #[.int .i64 (dk : Int), .int .i64 (zk : Int)] 24))
            have hWs : Wb.heap.size = wc.heap.size + 1 := by rw [hWb]; simp
            have hbl : base ≤ wc.heap.size := HO.out.base
            have Hset : Hid (Calls Try.prog 15 #[.pointer (some ⟨tb, 0, none⟩), .int .i64 2, .slice (some ⟨Wb.heap.size, 0, none⟩) 1 1] (Wb.alloc (.cells #[.int .i64 (dk : Int), .int .i64 (zk : Int)] 24)) fun e w' => e = .returned (.int .i64 0) ∧ OnceSt w w' base tb db mb cap d z mM mH (upd g dk zk 2) (bmap g 1) (bmap g 2) (.slice A' L1 (cl - 1)) l' ∧ Cells w' wc.heap.size 24 [.int .i64 (dk : Int), .int .i64 (zk : Int)]) := by
              have h3 := set_any (2 : Int) (some ⟨Wb.heap.size, 0, none⟩) 1 [((dk : Int), (zk : Int))] (by simp) (w := Wb.alloc (.cells #[.int .i64 (dk : Int), .int .i64 (zk : Int)] 24)) (fun k u hu => by
                cases k with
                | zero =>
                  simp at hu; subst hu
                  exact ⟨_, _, rfl, by simp, (Cells.new Wb _ _).cell rfl, (Cells.new Wb _ _).cell rfl⟩
                | succ k => simp at hu) (fun b o e _ => by
                  cases e
                  have := HN.out.lt
                  exact ⟨by omega, by omega⟩) HOd.out.tab
              have hall : allUnits d z [((dk : Int), (zk : Int))] = true := by
                simp [allUnits, isUnit]
                omega
              rw [show setE d z 2 [((dk : Int), (zk : Int))] = 0 from if_pos ⟨by omega, hall⟩, show setG g d z 2 [((dk : Int), (zk : Int))] = upd g dk zk 2 from by unfold setG; rw [if_pos ⟨by omega, hall⟩]; simp [setAll]] at h3
              refine h3.mono ?_
              rintro e w' ⟨he, h4, h5⟩
              exact ⟨he, HOd.out.table HN.out h4 h5, (hbox.alloc _).move (h5.block _ (by simp; omega) (by have := HN.out.lt; exact ⟨by omega, by omega⟩))⟩
            have b0 : Wb.cell? ⟨wc.heap.size, 0, none⟩ = some (.int .i64 (dk : Int)) := hbox.cell rfl
            have b1 : Wb.cell? ⟨wc.heap.size, 1, none⟩ = some (.int .i64 (zk : Int)) := hbox.cell rfl
            have Hq := Lib.hid (And.intro hdk hzk)
            have Hokl : Hid (ListOk d z (16 * (i + 1)) l') := ⟨by have := Hok.out.1; simp at this; omega, fun u hu => Hok.out.2 u (by simp [hu])⟩
            have Hbl : Hid (base ≤ wc.heap.size) := hbl
            have Hm6 : Hid (∀ w5 w6, OnceSt w w5 base tb db mb cap d z mM mH (upd g dk zk 2) (bmap g 1) (bmap g 2) (.slice A' L1 (cl - 1)) l' → Cells w5 wc.heap.size 24 [.int .i64 (dk : Int), .int .i64 (zk : Int)] → UM w6 mM 4 (upd (bmap g 1) dk zk none) d z → w5.mapTurned w6 mM → OnceSt w w6 base tb db mb cap d z mM mH (upd g dk zk 2) (bmap (upd g dk zk 2) 1) (bmap g 2) (.slice A' L1 (cl - 1)) l' ∧ Cells w6 wc.heap.size 24 [.int .i64 (dk : Int), .int .i64 (zk : Int)]) := by
              intro w5 w6 h1 h2 h3 h4
              rw [← bmap_other g dk zk 2 1 (by omega)] at h3
              exact ⟨h1.mineTo HN.out h3 h4, h2.move (h4.grown.block _ h2.lt (fun e => by cases e; have := HN.out.lt; have := Hbl.out; omega))⟩
            have Hm7 : Hid (∀ w6 w7, OnceSt w w6 base tb db mb cap d z mM mH (upd g dk zk 2) (bmap (upd g dk zk 2) 1) (bmap g 2) (.slice A' L1 (cl - 1)) l' → UM w7 mH 4 (upd (bmap g 2) dk zk (some (.lit (.bool true)))) d z → w6.mapTurned w7 mH → OnceSt w w7 base tb db mb cap d z mM mH (upd g dk zk 2) (bmap (upd g dk zk 2) 1) (bmap (upd g dk zk 2) 2) (.slice A' L1 (cl - 1)) l') := by
              intro w6 w7 h1 h3 h4
              rw [← bmap_same g dk zk 2] at h3
              exact h1.heldTo HN.out h3 h4
            clear hgl hsz hcur hOb hbox htb hcut' hOc HOd hWs hbl hL1 hdk hzk HO Htl Hok HL ht30 e3 e3b
            go_upto_region 35 with fail
            rw [← hWb]
            clear hWb
            go_wp2_with fail
            refine Hset.out.mono ?_
            rintro e w5 ⟨rfl, h5, hbx5⟩
            have H5 := Lib.hid (And.intro h5 hbx5)
            have b2 : w5.cell? ⟨wc.heap.size, 0, none⟩ = some (.int .i64 (dk : Int)) := hbx5.cell rfl
            have b3 : w5.cell? ⟨wc.heap.size, 1, none⟩ = some (.int .i64 (zk : Int)) := hbx5.cell rfl
            clear h5 hbx5 Hset x0 x1 b0 b1 hcutr kp
            go_wp2_with (first
              | (at_delete; refine um_drop (e := 4) (t := 56) (d := dk) (z := zk) rfl _ _ rfl Try.underlying56 H5.out.1.mine Hq.out.1 Hq.out.2 rfl rfl ?_; intro w6 hum hmt; obtain ⟨h6, hbx6⟩ := Hm6.out w5 w6 H5.out.1 H5.out.2 hum hmt; have H6 := Lib.hid h6; have b4 : w6.cell? ⟨wc.heap.size, 0, none⟩ = some (.int .i64 (dk : Int)) := hbx6.cell rfl; have b5 : w6.cell? ⟨wc.heap.size, 1, none⟩ = some (.int .i64 (zk : Int)) := hbx6.cell rfl; clear hum hmt h6 hbx6 H5 Hm6 b2 b3)
              | (refine um_store (e := 4) (t := 56) (d := dk) (z := zk) rfl _ _ _ rfl Try.underlying56 H6.out.held Hq.out.1 Hq.out.2 (.bool true) (.lit (.bool true)) (plainElem_bool Try.underlying4 true) rfl rfl rfl ?_; intro w7 hum hmt; have HOf := Lib.hid (Hm7.out w6 w7 H6.out hum hmt); clear hum hmt H6 Hm7 b4 b5))
            have Hc1 : Hid (Calls Try.prog 20 #[.pointer (some ⟨tb, 0, none⟩), .int .i64 1] w7 fun e w' => e = .returned (.int .i64 (sumN (fun d => cnt ((upd g dk zk 2) d) 1 z) d : Nat)) ∧ Below (w7).heap.size (w7) w') := by
              have h := count_any (1 : Int) HOf.out.tab
              rw [show countOf (upd g dk zk 2) d z 1 = _ from countOf_nat (upd g dk zk 2) d z 1 (by omega)] at h
              exact h
            obtain ⟨T1, hT1⟩ : ∃ T1, T1 = sumN (fun d => cnt ((upd g dk zk 2) d) 1 z) d := ⟨_, rfl⟩
            obtain ⟨T2, hT2⟩ : ∃ T2, T2 = sumN (fun d => cnt ((upd g dk zk 2) d) 2 z) d := ⟨_, rfl⟩
            have Hc2 : Hid (∀ w1, Below (w7).heap.size (w7) w1 → OnceSt w w1 base tb db mb cap d z mM mH (upd g dk zk 2) (bmap (upd g dk zk 2) 1) (bmap (upd g dk zk 2) 2) (.slice A' L1 (cl - 1)) l' ∧ (∀ ty, (Builtin.len_ #[56] ty #[.map (some mM)]).run Try.prog w1 = .ok (.int .i64 (T1 : Int)) w1) ∧ (∀ ty, (Builtin.len_ #[56] ty #[.map (some mH)]).run Try.prog w1 = .ok (.int .i64 (T2 : Int)) w1) ∧ Calls Try.prog 20 #[.pointer (some ⟨tb, 0, none⟩), .int .i64 2] w1 fun e w' => e = .returned (.int .i64 (T2 : Int)) ∧ Below w1.heap.size w1 w') := fun w1 hb => by
              have h1 := HOf.out.below HN.out hb
              refine ⟨h1, fun ty => ?_, fun ty => ?_, ?_⟩
              · have h := h1.mine.len Try.underlying56 ty
                rw [bmap_tot, ← hT1] at h
                exact h
              · have h := h1.held.len Try.underlying56 ty
                rw [bmap_tot, ← hT2] at h
                exact h
              · have h := count_any (2 : Int) h1.tab
                rw [show countOf (upd g dk zk 2) d z 2 = _ from countOf_nat (upd g dk zk 2) d z 2 (by omega), ← hT2] at h
                exact h
            rw [← hT1] at Hc1
            clear hT1 hT2
            go_wp2_with fail
            refine Hc1.out.mono ?_
            rintro e w11 ⟨rfl, hb11⟩
            obtain ⟨_, hl1, _, hcc2⟩ := Hc2.out w11 hb11
            have Hcc2 := Lib.hid hcc2
            have Hb11 := Lib.hid hb11
            clear hcc2 hb11 Hc1
            go_wp2_with fail
            refine Hcc2.out.mono ?_
            rintro e w12 ⟨rfl, hb12⟩
            obtain ⟨hfin, _, hl2, _⟩ := Hc2.out w12 (Hb11.out.trans (hb12.mono Hb11.out.size))
            have Hfin := Lib.hid hfin
            clear hb12 hfin hl1 Hcc2 Hc2 Hb11
            go_wp2_with fail
            go_roundw
            case rel => exact ⟨i + 1, by go_num, by omega, _, _, Hfin.out, Hokl.out⟩
            case measure => simp [intOf]; omega
          · as_aux_lemma =>
            have ht' : (t2 == 0) = false := by simpa using ht
            have Hrel := Lib.hid (release_any HO.out.tab)
            have Hbl := Lib.hid HO.out.base
            have Hokl : Hid (ListOk d z (16 * (i + 1)) (u :: l')) := ⟨by have := Hok.out.1; omega, Hok.out.2⟩
            have hL0' : ¬ (L : Int) = 0 := by omega
            clear Htl Hok HL ht30 e3 e3b
            go_wp2_with fail
            refine Hrel.out.mono ?_
            rintro e w5 ⟨A5, c5, us, rfl, hheld, _, h5, hk5, hru, hA5⟩
            have hO5 := HO.out.table HN.out h5 hk5
            have hmem : ∀ u ∈ us, ∃ a b : Nat, u = ((a : Int), (b : Int)) := fun u hu => by obtain ⟨a, b, _, _, h, _⟩ := (hheld.2.2 u).1 hu; exact ⟨a, b, h⟩
            have htot : tot (isU (bmap g 2)) d z = us.length := by
              have h1 := held_tot (D := d) (Z := z) (by have := Hnum.out; omega) us g hheld.1 (fun u hu => by obtain ⟨a, b, h1, h2, h3, h4, _⟩ := (hheld.2.2 u).1 hu; exact ⟨a, b, h1, h2, h3, h4⟩)
              have h2 : tot (isU (bmap (setAll g 0 us) 2)) d z = tot (fun _ _ => false) d z := tot_congr fun a b ha hb => by
                have h3 : setAll g 0 us a b ≠ 2 := by
                  by_cases q : ((a : Int), (b : Int)) ∈ us
                  · rw [setAll_in 0 us g a b hheld.1 hmem q]; omega
                  · rw [setAll_at 0 us g a b hmem q]
                    intro e
                    exact q ((hheld.2.2 _).2 ⟨a, b, ha, hb, rfl, e, rfl⟩)
                simp [isU, bmap, h3]
              rw [h2, tot_none] at h1
              omega
            have hb1 : bmap g 1 = bmap (setAll g 0 us) 1 := by
              funext a b
              by_cases q : ((a : Int), (b : Int)) ∈ us
              · have h1 := setAll_in 0 us g a b hheld.1 hmem q
                obtain ⟨a', b', _, _, h3, h4, _⟩ := (hheld.2.2 _).1 q
                have e1 : a = a' := by have := congrArg Prod.fst h3; simp at this; omega
                have e2 : b = b' := by have := congrArg Prod.snd h3; simp at this; omega
                subst e1; subst e2
                simp [bmap, h1, h4]
              · simp [bmap, setAll_at 0 us g a b hmem q]
            have hlen : ∀ ty, (Builtin.len_ #[56] ty #[.map (some mH)]).run Try.prog w5 = .ok (.int .i64 (us.length : Nat)) w5 := fun ty => by
              have h := hO5.held.len Try.underlying56 ty
              rw [htot] at h
              exact h
            have hul : us.length ≤ 640 := by
              have h1 := hheld.2.1
              have h2 : d * z ≤ 16 * 40 := Nat.mul_le_mul (by have := Hnum.out; omega) (by have := Hnum.out; omega)
              omega
            obtain ⟨n5, hn5⟩ : ∃ n5, n5 = us.length := ⟨_, rfl⟩
            rw [← hn5] at hlen hul ⊢
            have Hn5 := Lib.hid hn5
            have Hb1 := Lib.hid hb1
            have hn5' : (n5 : Int) ≤ 640 := by omega
            have Hus : Hid (us.Nodup ∧ (∀ u ∈ us, ∃ a b : Nat, a < d ∧ b < z ∧ u = ((a : Int), (b : Int)) ∧ g a b = 2) ∧ (∀ b o, A5 = some ⟨b, o, none⟩ → us ≠ [] → base ≤ b)) := ⟨hheld.1, fun u hu => by obtain ⟨a, b, h1, h2, h3, h4, _⟩ := (hheld.2.2 u).1 hu; exact ⟨a, b, h1, h2, h3, h4⟩, fun b o e q => by have := hA5 b o e q; have := Hbl.out; omega⟩
            have H5 : Hid (OnceSt w w5 base tb db mb cap d z mM mH (setAll g 0 us) (bmap g 1) (bmap (setAll g 0 (us.take 0)) 2) (.slice Al L cl) (u :: l') ∧ RU w5 w5.heap.size A5 us) := ⟨hO5, hru⟩
            clear hheld h5 hk5 hru hA5 hO5 hmem htot hb1 hul hn5 HO Hrel kp
            go_wp2_with fail
            clear hlen
            go_loopw [20] (fun iv wr => ∃ (k : Nat), iv = .int .i64 (k : Int) ∧ k ≤ n5 ∧ Hid (OnceSt w wr base tb db mb cap d z mM mH (setAll g 0 us) (bmap g 1) (bmap (setAll g 0 (us.take k)) 2) (.slice Al L cl) (u :: l') ∧ RU wr wr.heap.size A5 us)) (fun iv _ => n5 - (intOf iv).toNat)
            case atStart => exact ⟨0, rfl, Nat.zero_le _, H5.out⟩
            case round =>
              clear H5
              obtain ⟨k, rfl, hk, hS⟩ := hrel
              by_cases hlt : k < n5
              · as_aux_lemma =>
                have hlt' : (k : Int) < (n5 : Int) := by omega
                have hkl : k < us.length := by have := Hn5.out; omega
                have hu := List.getElem?_eq_getElem hkl
                obtain ⟨dk, zk, hd, hz, e, hg2⟩ := Hus.out.2.1 us[k] (List.getElem_mem hkl)
                rw [e] at hu
                obtain ⟨b5, o5, hA, hblt, x0, x1⟩ := hS.out.2 k _ hu
                simp only [] at x0 x1
                have hne : us ≠ [] := by intro q; rw [q] at hkl; simp at hkl
                have hbase5 := Hus.out.2.2 b5 o5 hA hne
                have hnot : ((dk : Int), (zk : Int)) ∉ us.take k := fun q => by
                  obtain ⟨k', hk', e'⟩ := List.getElem_of_mem q
                  have hk2 : k' < k := by simp at hk'; omega
                  rw [List.getElem_take, ← e] at e'
                  exact (List.pairwise_iff_getElem.1 Hus.out.1 k' k (by omega) hkl hk2) e'
                have hmemt : ∀ u ∈ us.take k, ∃ a b : Nat, u = ((a : Int), (b : Int)) := fun u hu => by obtain ⟨a, b, _, _, h, _⟩ := Hus.out.2.1 u (List.mem_of_mem_take hu); exact ⟨a, b, h⟩
                have hlk : (Instr.lookup 56 (.map (some mH)) (.agg #[.int .i64 (dk : Int), .int .i64 (zk : Int)]) false).run Try.prog wr = .ok (.bool true) wr :=
                  hS.out.1.held.lookB Try.underlying56 (d := dk) (z := zk) (by have := Hnum.out; omega) (by have := Hnum.out; omega) (c := true) (by rw [bmap_get, setAll_at 0 _ g dk zk hmemt hnot, hg2]; rfl)
                have Hum := Lib.hid hS.out.1.held
                have Hq := Lib.hid (And.intro hd hz)
                have Hst : Hid (∀ w6, UM w6 mH 4 (upd (bmap (setAll g 0 (us.take k)) 2) dk zk none) d z → wr.mapTurned w6 mH → OnceSt w w6 base tb db mb cap d z mM mH (setAll g 0 us) (bmap g 1) (bmap (setAll g 0 (us.take (k + 1))) 2) (.slice Al L cl) (u :: l') ∧ RU w6 w6.heap.size A5 us) := by
                  intro w6 h3 h4
                  rw [← bmap_other (setAll g 0 (us.take k)) dk zk 0 2 (by omega)] at h3
                  have hst : upd (setAll g 0 (us.take k)) dk zk 0 = setAll g 0 (us.take (k + 1)) := by
                    rw [List.take_add_one, hu]
                    show _ = setAll g 0 (us.take k ++ [((dk : Int), (zk : Int))])
                    rw [setAll_snoc]
                    simp
                  rw [hst] at h3
                  refine ⟨hS.out.1.heldTo HN.out h3 h4, fun j u' hu' => ?_⟩
                  obtain ⟨b6, o6, hA6, hlt6, y0, y1⟩ := hS.out.2 j u' hu'
                  have hb6 := Hus.out.2.2 b6 o6 hA6 hne
                  have hk6 := h4.grown.block b6 hlt6 (fun e => by cases e; have := HN.out.lt; omega)
                  exact ⟨b6, o6, hA6, Nat.lt_of_lt_of_le hlt6 h4.grown.size, (World.cell?_of_block hk6).trans y0, (World.cell?_of_block hk6).trans y1⟩
                subst hA
                clear hS hlt hkl hu e hblt hne hbase5 hnot hmemt hg2 hd hz
                go_wp2_with (at_delete; refine um_drop (e := 4) (t := 56) (d := dk) (z := zk) rfl _ _ rfl Try.underlying56 Hum.out Hq.out.1 Hq.out.2 rfl rfl ?_; intro w6 hum hmt; have H6 := Lib.hid (Hst.out w6 hum hmt); clear hum hmt Hst)
                go_roundw
                case rel => exact ⟨k + 1, by go_num, by omega, H6.out⟩
                case measure => simp [intOf]; omega
              · as_aux_lemma =>
                obtain rfl : k = n5 := by omega
                have HOf : Hid (OnceSt w wr base tb db mb cap d z mM mH (setAll g 0 us) (bmap (setAll g 0 us) 1) (bmap (setAll g 0 us) 2) (.slice Al L cl) (u :: l')) := by
                  have h := hS.out.1
                  rw [List.take_of_length_le (by have := Hn5.out; omega), Hb1.out] at h
                  exact h
                clear hS hlt
                have Hc1 : Hid (Calls Try.prog 20 #[.pointer (some ⟨tb, 0, none⟩), .int .i64 1] wr fun e w' => e = .returned (.int .i64 (sumN (fun d => cnt ((setAll g 0 us) d) 1 z) d : Nat)) ∧ Below (wr).heap.size (wr) w') := by
                  have h := count_any (1 : Int) HOf.out.tab
                  rw [show countOf (setAll g 0 us) d z 1 = _ from countOf_nat (setAll g 0 us) d z 1 (by omega)] at h
                  exact h
                obtain ⟨T1, hT1⟩ : ∃ T1, T1 = sumN (fun d => cnt ((setAll g 0 us) d) 1 z) d := ⟨_, rfl⟩
                obtain ⟨T2, hT2⟩ : ∃ T2, T2 = sumN (fun d => cnt ((setAll g 0 us) d) 2 z) d := ⟨_, rfl⟩
                have Hc2 : Hid (∀ w1, Below (wr).heap.size (wr) w1 → OnceSt w w1 base tb db mb cap d z mM mH (setAll g 0 us) (bmap (setAll g 0 us) 1) (bmap (setAll g 0 us) 2) (.slice Al L cl) (u :: l') ∧ (∀ ty, (Builtin.len_ #[56] ty #[.map (some mM)]).run Try.prog w1 = .ok (.int .i64 (T1 : Int)) w1) ∧ (∀ ty, (Builtin.len_ #[56] ty #[.map (some mH)]).run Try.prog w1 = .ok (.int .i64 (T2 : Int)) w1) ∧ Calls Try.prog 20 #[.pointer (some ⟨tb, 0, none⟩), .int .i64 2] w1 fun e w' => e = .returned (.int .i64 (T2 : Int)) ∧ Below w1.heap.size w1 w') := fun w1 hb => by
                  have h1 := HOf.out.below HN.out hb
                  refine ⟨h1, fun ty => ?_, fun ty => ?_, ?_⟩
                  · have h := h1.mine.len Try.underlying56 ty
                    rw [bmap_tot, ← hT1] at h
                    exact h
                  · have h := h1.held.len Try.underlying56 ty
                    rw [bmap_tot, ← hT2] at h
                    exact h
                  · have h := count_any (2 : Int) h1.tab
                    rw [show countOf (setAll g 0 us) d z 2 = _ from countOf_nat (setAll g 0 us) d z 2 (by omega), ← hT2] at h
                    exact h
                rw [← hT1] at Hc1
                clear hT1 hT2
                go_wp2_with fail
                refine Hc1.out.mono ?_
                rintro e w11 ⟨rfl, hb11⟩
                obtain ⟨_, hl1, _, hcc2⟩ := Hc2.out w11 hb11
                have Hcc2 := Lib.hid hcc2
                have Hb11 := Lib.hid hb11
                clear hcc2 hb11 Hc1
                go_wp2_with fail
                refine Hcc2.out.mono ?_
                rintro e w12 ⟨rfl, hb12⟩
                obtain ⟨hfin, _, hl2, _⟩ := Hc2.out w12 (Hb11.out.trans (hb12.mono Hb11.out.size))
                have Hfin := Lib.hid hfin
                clear hb12 hfin hl1 Hcc2 Hc2 Hb11
                go_wp2_with fail
                go_roundw
                case rel => exact ⟨i + 1, by go_num, by omega, _, _, Hfin.out, Hokl.out⟩
                case measure => simp [intOf]; omega
    · as_aux_lemma =>
      obtain rfl : i = m := by omega
      have Hb := Lib.hid hO.bel
      clear hS hO hok hlt HO
      go_wp2_with fail
      go_ret
      exact ⟨rfl, Hb.out⟩
end
end Go.Proofs.Ytffmipmkbbholaa

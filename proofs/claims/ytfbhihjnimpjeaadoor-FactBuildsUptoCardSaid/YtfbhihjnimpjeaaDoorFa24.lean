/-
  parted: the blocks that the index says.
-/
import Derived.Test.YtfbhihjnimpjeaaDoorKFa9
namespace Go.Proofs.YtfbhihjnimpjeaaDoor
open Go.RowKit Go.Sort Go.Lib

/-- where the loop of parted stands -/
structure PSt (w wr : World) (body index : List UInt8) (bv iv lv : Value) (br ir : List UInt8) (Ab Ai : Option Addr) (cb ci : Nat) (ok : List (ByteArray × Nat)) (oq : List (ByteArray × List UInt8)) : Prop where
  eb : bv = .slice Ab br.length cb
  ei : iv = .slice Ai ir.length ci
  lb : br.length ≤ cb
  li : ir.length ≤ ci
  ab : Ab = none → cb = 0
  ai : Ai = none → ci = 0
  rb : RB w w.heap.size Ab br
  ri : RB w w.heap.size Ai ir
  row : RowQ wr w.heap.size lv oq w w.heap.size
  parts : partsF index body.length = (partsF ir br.length).map (ok ++ ·)
  cuts : ∀ ps, cutsF (ok ++ ps) body = oq ++ cutsF ps br
  len : oq.length + ir.length ≤ index.length
  lenb : br.length ≤ body.length
  bel : Below w.heap.size w wr
def PartedP (body index : List UInt8) (w w' : World) (v : Value) : Prop := ∀ ps, partsF index body.length = some ps → RowQ w' w.heap.size v (cutsF ps body) w w.heap.size
section
set_option maxRecDepth 100000
set_option maxHeartbeats 8000000
theorem parted_any (A0 A1 : Option Addr) (c0 c1 : Nat) (body index : List UInt8) (w : World) (h0 : RB w w.heap.size A0 body) (h1 : RB w w.heap.size A1 index) (l0 : body.length ≤ c0) (l1 : index.length ≤ c1) (a0 : A0 = none → c0 = 0) (a1 : A1 = none → c1 = 0) (m0 : body.length ≤ 1099511627776) (m1 : index.length ≤ 1099511627776) :
    Calls Tryd.prog 68 #[.slice A0 body.length c0, .slice A1 index.length c1] w fun e w' => ∃ A n c, e = .returned (.tuple #[.slice A n c, .bool (partsF index body.length).isSome]) ∧ PartedP body index w w' (.slice A n c) ∧ Below w.heap.size w w' := by
  have H0 : Hid (PSt w w body index (.slice A0 body.length c0) (.slice A1 index.length c1) (.slice none 0 0) body index A0 A1 c0 c1 [] []) := ⟨rfl, rfl, l0, l1, a0, a1, h0, h1, RowQ.nil _ _ _ _, by simp, fun ps => rfl, by simp, Nat.le_refl _, Below.refl _ _⟩
  have Hm : Hid (body.length ≤ 1099511627776 ∧ index.length ≤ 1099511627776) := ⟨m0, m1⟩
  have HP : Hid (∀ w' v, PartedP body index w w' v = ∀ ps, partsF index body.length = some ps → RowQ w' w.heap.size v (cutsF ps body) w w.heap.size) := fun _ _ => rfl
  obtain ⟨po, hpo⟩ : ∃ po, po = partsF index body.length := ⟨_, rfl⟩
  rw [← hpo]
  have Hpo := Lib.hid hpo
  clear h0 h1 l0 l1 a0 a1 m0 m1 hpo
  go_enter Tryd.func68, Tryd.ntmps68
  go_wp2_with fail
  go_loopw [0, 1, 6] (fun bv iv lv wr => ∃ br ir Ab Ai cb ci ok oq, Hid (PSt w wr body index bv iv lv br ir Ab Ai cb ci ok oq)) (fun _ iv _ _ => lenS iv)
  case atStart => exact ⟨body, index, A0, A1, c0, c1, [], [], H0.out⟩
  case round =>
    obtain ⟨br, ir, Ab, Ai, cb, ci, ok, oq, hst⟩ := hrel
    obtain ⟨⟨⟩, ⟨⟩, _⟩ : _ ∧ _ ∧ True := ⟨hst.out.eb, hst.out.ei, trivial⟩
    obtain ⟨Al, cl, rfl, hcl⟩ := hst.out.row.shape
    obtain ⟨nb, hnb⟩ : ∃ nb, nb = br.length := ⟨_, rfl⟩
    obtain ⟨ni, hni⟩ : ∃ ni, ni = ir.length := ⟨_, rfl⟩
    rw [← hnb, ← hni]
    have Hn : Hid (nb = br.length ∧ ni = ir.length) := ⟨hnb, hni⟩
    by_cases hi0 : ni = 0
    · have hir : ir = [] := List.eq_nil_of_length_eq_zero (by omega)
      have hp : Hid (po = if br.length = 0 then some ok else none) := by
        show _ = _
        rw [Hpo.out, hst.out.parts, hir, partsF_nil]
        by_cases q : br.length = 0
        · rw [if_pos q, if_pos q]; simp
        · rw [if_neg q, if_neg q]; rfl
      have Hfin : Hid (PartedP body index w wr (.slice Al oq.length cl)) := fun ps hps => by
        rw [← Hpo.out, hp.out] at hps
        by_cases q : br.length = 0
        · rw [if_pos q] at hps
          cases hps
          have := hst.out.cuts []
          rw [List.append_nil] at this
          rw [this]
          have hb0 : cutsF [] br = [] := rfl
          rw [hb0, List.append_nil]
          exact hst.out.row
        · rw [if_neg q] at hps; cases hps
      have Hbel := Lib.hid hst.out.bel
      by_cases q : nb = 0
      · have hpo2 : po = some ok := by rw [hp.out, if_pos (by omega)]
        subst hpo2
        subst hi0
        subst q
        clear hst hnb hni hp hir Hpo
        go_wp2_with fail
        exact bodyPost_ret (v := .tuple #[.slice Al oq.length cl, .bool true]) (by simp [results, Tryd.results68, go_sem]) rfl ⟨Al, _, cl, rfl, Hfin.out, Hbel.out⟩
      · have hpo2 : po = none := by rw [hp.out, if_neg (by omega)]
        have q' : ¬ (nb : Int) = 0 := by omega
        have q2 : ((nb : Int) == 0) = false := by rw [beq_eq_false_iff_ne]; exact q'
        subst hpo2
        subst hi0
        clear hst hnb hni hp hir Hpo
        go_wp2_with fail
        exact bodyPost_ret (v := .tuple #[.slice Al oq.length cl, .bool false]) (by simp [results, Tryd.results68, go_sem]) rfl ⟨Al, _, cl, rfl, Hfin.out, Hbel.out⟩
    · have hir : ir ≠ [] := fun e => hi0 (by rw [hni, e]; rfl)
      have hi1 : (0 : Int) < (ni : Int) := by omega
      have HNone : Hid (entR ir br.length = none → po = none ∧ ∀ w' v, PartedP body index w w' v) := fun q => by
        have : po = none := by rw [Hpo.out, hst.out.parts, partsF_none hir q]; rfl
        exact ⟨this, fun w' v ps hps => by rw [← Hpo.out, this] at hps; cases hps⟩
      have HK := Lib.hid (readBy_any Ai ci ir 1024 wr ((hst.out.ri.below hst.out.bel).wide hst.out.bel.size) (by have := hst.out.len; have := Hm.out; omega) hst.out.li hst.out.ai (by omega))
      rw [← hni] at HK
      have hE : Hid (entR ir br.length = _) := (by rw [entR] : entR ir br.length = _)
      have hok := Lib.hid (@readBy_ok ir 1024)
      have Hir := Lib.hid hir
      generalize readBy ir 1024 = kb at *
      obtain ⟨kx, kn, ke⟩ := kb
      dsimp only at HK hE hok
      have Hst := hst
      clear hst hir hnb hni
      by_cases hk : ke = 0
      · subst hk
        obtain ⟨kp, kl, kk, kk2⟩ := hok.out rfl
        try dsimp only at kp kl kk kk2
        obtain ⟨bi, oi, rfl, hbi⟩ := Hst.out.ri.flat (by have := Hn.out; omega)
        have hri := Hst.out.ri
        have hli := Hst.out.li
        rw [← Hn.out.2] at kl hli
        obtain ⟨A2, hsl, hA2, hne⟩ := cutB_run bi oi ni ci kn kl hli
        have HN : Hid (∀ W1, Below w.heap.size w W1 → Calls Tryd.prog 92 #[.slice A2 (ni - kn) (ci - kn)] W1 fun e w' => e = .returned (rnVal (readNum (ir.drop kn))) ∧ W1 = w') := fun W1 hW1 => by
          have hni := Hn.out.2
          have hlen := Hst.out.len
          have hm := Hm.out.2
          have := rn_any A2 (ci - kn) (ir.drop kn) W1 w.heap.size (hA2 W1 _ ir (by omega) (hri.below hW1)) (by rw [List.length_drop]; omega) (by rw [List.length_drop]; omega) (fun e => absurd e hne)
          rw [List.length_drop, ← hni] at this
          exact this
        have hE2 : Hid (entR ir br.length = if (readNum (ir.drop kn)).2.2 ≠ 0 ∨ (readNum (ir.drop kn)).1 < 5 ∨ br.length < (readNum (ir.drop kn)).1 then none else some ((⟨kx.toArray⟩, (readNum (ir.drop kn)).1), kn + (readNum (ir.drop kn)).2.1)) := by show _ = _; rw [hE.out]; simp
        have hnk := Lib.hid (@readNum_ok (ir.drop kn))
        generalize readNum (ir.drop kn) = sn at *
        obtain ⟨sv, sl, se⟩ := sn
        try dsimp only at hE2 hnk
        have HN : Hid (∀ W1, Below w.heap.size w W1 → Calls Tryd.prog 92 #[.slice A2 (ni - kn) (ci - kn)] W1 fun e w' => e = .returned (.tuple #[.int .u64 (sv : Int), .int .i64 (sl : Int), .int .i64 (se : Int)]) ∧ W1 = w') := HN.out
        have Hk : Hid (0 < kn ∧ kn ≤ ni) := ⟨kp, kl⟩
        clear hE hok hA2 hri hbi kp kk kk2 hli
        by_cases hs : se = 0
        · subst hs
          obtain ⟨sp, sp5, sl2, sv2⟩ := hnk.out rfl
          try dsimp only at sp sl2 sv2
          rw [List.length_drop, ← Hn.out.2] at sl2
          by_cases h5 : sv < 5
          · obtain ⟨hpo2, hfin⟩ := HNone.out (by rw [hE2.out, if_pos (.inr (.inl h5))])
            have Hfin := Lib.hid hfin
            have h5' : (sv : Int) < 5 := by omega
            subst hpo2
            clear hE2 HNone hfin Hpo hnk
            go_wp2_with fail
            refine HK.out.mono ?_
            rintro e w2 ⟨kv, rfl, ho, hb⟩
            obtain ⟨A3, c3, rfl, _⟩ := ho.rb
            have H2 : Hid (Below w.heap.size w w2) := Hst.out.bel.trans (hb.mono Hst.out.bel.size)
            clear ho hb HK
            go_wp2_with fail
            refine (HN.out _ H2.out).mono ?_
            rintro e w3 ⟨rfl, rfl⟩
            go_wp2_with fail
            exact bodyPost_ret (v := .tuple #[.slice none 0 0, .bool false]) (by simp [results, Tryd.results68, go_sem]) rfl ⟨none, 0, 0, rfl, Hfin.out _ _, H2.out⟩
          · by_cases hbig : nb < sv
            · obtain ⟨hpo2, hfin⟩ := HNone.out (by rw [hE2.out, if_pos (.inr (.inr (by rw [← Hn.out.1]; exact hbig)))])
              have Hfin := Lib.hid hfin
              have h5' : ¬ (sv : Int) < 5 := by omega
              have hbig' : (sv : Int) > (nb : Int) := by omega
              have hwu : IntKind.u64.wrap (nb : Int) = (nb : Int) := by rw [IntKind.wrap_u64]; have := Hm.out; have := Hst.out.lenb; have := Hn.out; omega
              subst hpo2
              clear hE2 HNone hfin Hpo hnk
              go_wp2_with fail
              refine HK.out.mono ?_
              rintro e w2 ⟨kv, rfl, ho, hb⟩
              obtain ⟨A3, c3, rfl, _⟩ := ho.rb
              have H2 : Hid (Below w.heap.size w w2) := Hst.out.bel.trans (hb.mono Hst.out.bel.size)
              clear ho hb HK
              go_wp2_with fail
              refine (HN.out _ H2.out).mono ?_
              rintro e w3 ⟨rfl, rfl⟩
              go_wp2_with fail
              exact bodyPost_ret (v := .tuple #[.slice none 0 0, .bool false]) (by simp [results, Tryd.results68, go_sem]) rfl ⟨none, 0, 0, rfl, Hfin.out _ _, H2.out⟩
            · have hent : entR ir br.length = some ((⟨kx.toArray⟩, sv), kn + sl) := by rw [hE2.out, if_neg (by rw [← Hn.out.1]; omega)]
              have h5' : ¬ (sv : Int) < 5 := by omega
              have hbig' : ¬ (sv : Int) > (nb : Int) := by omega
              obtain ⟨bb, ob, rfl, hbb⟩ := Hst.out.rb.flat (by have := Hn.out; omega)
              have hlb := Hst.out.lb
              have hli := Hst.out.li
              have hrb := Hst.out.rb
              have hri := Hst.out.ri
              rw [← Hn.out.1] at hlb
              rw [← Hn.out.2] at hli
              have hsl3 := cut3_run bb ob nb cb sv (by omega) (by omega) hlb
              obtain ⟨Ab2, hsl4, hAb2, hneb⟩ := cutU_run bb ob nb cb sv (by omega) hlb
              obtain ⟨Ai2, hsl5, hAi2, hnei⟩ := cutB_run bi oi ni ci (kn + sl) (by omega) hli
              have hsl5 : ∀ W : World, (Instr.sliceAt 25 (.slice (some ⟨bi, oi, none⟩) ni ci) (some (.int .i64 ((kn : Int) + (sl : Int)))) none none).run Tryd.prog W = .ok (.slice Ai2 (ni - (kn + sl)) (ci - (kn + sl))) W := fun W => by
                have := hsl5 W
                rw [Int.natCast_add] at this
                exact this
              have hw1 : IntKind.i64.wrap ((kn : Int) + (sl : Int)) = (kn : Int) + (sl : Int) := by rw [IntKind.wrap_i64]; have := Hm.out; have := Hst.out.len; have := Hn.out; omega
              have hwu : IntKind.u64.wrap (nb : Int) = (nb : Int) := by rw [IntKind.wrap_u64]; have := Hm.out; have := Hst.out.lenb; have := Hn.out; omega
              have HVb : Hid (Vb w w.heap.size (.slice (some ⟨bb, ob, none⟩) sv sv) (br.take sv)) := ⟨_, sv, by rw [List.length_take, ← Hn.out.1, Nat.min_eq_left (by omega)], by rw [List.length_take]; omega, (fun e => by cases e), hrb.take sv⟩
              have HNew : Hid (∀ v4 w4 u1 u2, RowQ w4 w.heap.size v4 (oq ++ [(⟨kx.toArray⟩, br.take sv)]) w w.heap.size → Below w.heap.size w w4 → u1 = .slice Ab2 (nb - sv) (cb - sv) → u2 = .slice Ai2 (ni - (kn + sl)) (ci - (kn + sl)) →
                  PSt w w4 body index u1 u2 v4 (br.drop sv) (ir.drop (kn + sl)) Ab2 Ai2 (cb - sv) (ci - (kn + sl)) (ok ++ [(⟨kx.toArray⟩, sv)]) (oq ++ [(⟨kx.toArray⟩, br.take sv)])) := fun v4 w4 u1 u2 hrow hbel e1 e2 => by
                have n1 := Hn.out.1
                have n2 := Hn.out.2
                refine ⟨by rw [e1, List.length_drop, ← n1], by rw [e2, List.length_drop, ← n2], by rw [List.length_drop]; omega, by rw [List.length_drop]; omega, fun e => absurd e hneb, fun e => absurd e hnei, hAb2 w _ br (by omega) hrb, hAi2 w _ ir (by omega) hri, hrow, ?_, ?_, ?_, ?_, hbel⟩
                · rw [Hst.out.parts, partsF_some Hir.out hent, List.length_drop, Option.map_map]
                  congr 1
                  funext ps
                  simp
                · intro ps
                  rw [List.append_assoc, Hst.out.cuts, List.append_assoc]
                  rfl
                · rw [List.length_append, List.length_drop]
                  have := Hst.out.len
                  simp only [List.length_cons, List.length_nil]
                  omega
                · rw [List.length_drop]
                  have := Hst.out.lenb
                  omega
              have Hnum : Hid (oq.length + 1 ≤ 1099511627776) := by show _ ≤ _; have := Hst.out.len; have := Hm.out; have := Hn.out; omega
              have Hc : Hid (ni - (kn + sl) < ni) := by show _ < _; omega
              clear hE2 HNone Hpo hnk hent hlb hli hrb hri hAb2 hAi2 hbb sp5 sl2 sv2 sp
              go_upto_region 3 with fail
              go_wp2_with fail
              refine HK.out.mono ?_
              rintro e w2 ⟨kv, rfl, ho, hb⟩
              obtain ⟨A3, c3, rfl, _, hr3, _⟩ := ho.rb
              have H2 : Hid (Below w.heap.size w w2) := Hst.out.bel.trans (hb.mono Hst.out.bel.size)
              have Hr3 := Lib.hid hr3
              have Hrow2 : Hid (RowQ w2 w.heap.size (.slice Al oq.length cl) oq w w.heap.size) := Hst.out.row.below hb
              clear ho hb HK hr3 Hst
              go_wp2_with fail
              refine (HN.out _ H2.out).mono ?_
              rintro e w3 ⟨rfl, rfl⟩
              clear HN
              have hcv := text_run w2 w2.heap.size A3 kx c3 Hr3.out
              have hcv2 := text_run w2.drew w2.heap.size A3 kx c3 Hr3.out.drew
              obtain ⟨cap1, WA, hWA⟩ : ∃ cap1 WA, WA = w2.drew.alloc (.cells #[.string ⟨kx.toArray⟩, .slice (some ⟨bb, ob, none⟩) sv sv] 128) ∧ cap1 = 1 := ⟨_, _, rfl, rfl⟩
              have hbA : Below w2.heap.size w2 (w2.drew.alloc (.cells #[.string ⟨kx.toArray⟩, .slice (some ⟨bb, ob, none⟩) sv sv] 128)) := ((Below.refl w2.heap.size w2).drew).alloc (Nat.le_refl _) _
              have HrowA : Hid (RowQ (w2.drew.alloc (.cells #[.string ⟨kx.toArray⟩, .slice (some ⟨bb, ob, none⟩) sv sv] 128)) w.heap.size (.slice Al oq.length cl) oq w w.heap.size) := Hrow2.out.below hbA
              have HszA : Hid (w.heap.size ≤ (w2.drew.alloc (.cells #[.string ⟨kx.toArray⟩, .slice (some ⟨bb, ob, none⟩) sv sv] 128)).heap.size) := Nat.le_trans H2.out.size hbA.size
              have HbA : Hid (Below w.heap.size w (w2.drew.alloc (.cells #[.string ⟨kx.toArray⟩, .slice (some ⟨bb, ob, none⟩) sv sv] 128))) := H2.out.trans (hbA.mono H2.out.size)
              have HcA : Hid (Cells (w2.drew.alloc (.cells #[.string ⟨kx.toArray⟩, .slice (some ⟨bb, ob, none⟩) sv sv] 128)) w2.heap.size 128 [.string ⟨kx.toArray⟩, .slice (some ⟨bb, ob, none⟩) sv sv]) := Cells.new w2.drew _ _
              clear hbA hWA
              go_upto_region 9 with fail
              go_region_law (first | (go_must (refine step_part (by rfl) (.tmp 44) (.tmp 52) (by rfl) (by rfl) HrowA.out w2.heap.size 1 (by rfl) HcA.out HVb.out Hnum.out HszA.out ?_); intro v4 w4 r4 b4; have H4 : Hid (RowQ w4 w.heap.size v4 (oq ++ [(⟨kx.toArray⟩, br.take sv)]) w w.heap.size ∧ Below w.heap.size w w4) := ⟨r4, HbA.out.trans b4⟩; obtain ⟨A4, c4, e4, _⟩ := r4.shape; rw [List.length_append] at e4; subst e4; clear r4 b4))
              go_upto_region 10 with fail
              go_quiet (fail)
              go_wp2_with fail
              exact ⟨⟨br.drop sv, ir.drop (kn + sl), Ab2, Ai2, cb - sv, ci - (kn + sl), ok ++ [(⟨kx.toArray⟩, sv)], oq ++ [(⟨kx.toArray⟩, br.take sv)], Lib.hid (HNew.out (.slice A4 (oq.length + 1) c4) (w4.drewN nq) _ _ (RowQ.move (w' := w4.drewN nq) H4.out.1 fun _ _ => rfl) (below_drewN H4.out.2 nq) rfl rfl)⟩, Hc.out⟩
        · obtain ⟨hpo2, hfin⟩ := HNone.out (by rw [hE2.out, if_pos (.inl hs)])
          have Hfin := Lib.hid hfin
          have hk' : ¬ (se : Int) = 0 := by omega
          have hk2 : ((se : Int) != 0) = true := by rw [bne_iff_ne]; exact hk'
          subst hpo2
          clear hE2 HNone hfin Hpo hnk
          go_wp2_with fail
          refine HK.out.mono ?_
          rintro e w2 ⟨kv, rfl, ho, hb⟩
          obtain ⟨A3, c3, rfl, _⟩ := ho.rb
          have H2 : Hid (Below w.heap.size w w2) := Hst.out.bel.trans (hb.mono Hst.out.bel.size)
          clear ho hb HK
          go_wp2_with fail
          refine (HN.out _ H2.out).mono ?_
          rintro e w3 ⟨rfl, rfl⟩
          go_wp2_with fail
          exact bodyPost_ret (v := .tuple #[.slice none 0 0, .bool false]) (by simp [results, Tryd.results68, go_sem]) rfl ⟨none, 0, 0, rfl, Hfin.out _ _, H2.out⟩
      · obtain ⟨hpo2, hfin⟩ := HNone.out (by rw [hE.out, if_pos hk])
        have Hfin := Lib.hid hfin
        have hk' : ¬ (ke : Int) = 0 := by omega
        have hk2 : ((ke : Int) != 0) = true := by rw [bne_iff_ne]; exact hk'
        subst hpo2
        clear hE hok HNone hfin Hpo
        go_wp2_with fail
        refine HK.out.mono ?_
        rintro e w2 ⟨kv, rfl, ho, hb⟩
        obtain ⟨A2, c2, rfl, _⟩ := ho.rb
        have H2 : Hid (Below w.heap.size w w2) := Hst.out.bel.trans (hb.mono Hst.out.bel.size)
        clear ho hb HK
        go_wp2_with fail
        exact bodyPost_ret (v := .tuple #[.slice none 0 0, .bool false]) (by simp [results, Tryd.results68, go_sem]) rfl ⟨none, 0, 0, rfl, Hfin.out _ _, H2.out⟩
end
end Go.Proofs.YtfbhihjnimpjeaaDoor

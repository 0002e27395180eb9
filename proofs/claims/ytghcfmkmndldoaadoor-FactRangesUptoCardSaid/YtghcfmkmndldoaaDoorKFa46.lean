/-
  The second saying's facts of a block.
-/
import Derived.Test.YtghcfmkmndldoaaDoorKFa9
import Derived.Test.YtghcfmkmndldoaaDoorKFaR2
import Derived.Test.YtghcfmkmndldoaaDoorKPageSpec
import Derived.Test.YtghcfmkmndldoaaDoorAppStep
import Derived.Test.YtghcfmkmndldoaaDoorKFa3
namespace Go.Proofs.YtghcfmkmndldoaaDoor
open Go.RowKit Go.Sort Go.Lib

def okF (x : List UInt8) : Bool := match fcsF x with | some (_ :: _) => true | _ => false
def lsF (x : List UInt8) : List Fc := (fcsF x).getD []
theorem RowF.snocO {w w' : World} {base : Nat} {v v' : Value} {fs gs : List Fc} (h0 : RowO w base v fs) (h : RowF w' base v' gs (Own w base)) (hg : w.grownBy w' v.ownBlock) : RowO w' base v' gs := by
  obtain ⟨ps, _, ho, _⟩ := h0
  exact h.mono fun V x hV => hV.move fun g hgv => hg.block g (hV.lt g hgv).2 (fun e => hV.notRow ho g hgv e.symm)
/-- where the loop stands -/
structure FcSt (w wr : World) (x rest : List UInt8) (A' : Option Addr) (c' : Nat) (ov : Value) (out : List Fc) : Prop where
  rd : RB wr w.heap.size A' rest
  cap : rest.length ≤ c'
  nn : A' = none → c' = 0
  row : RowO wr w.heap.size ov out
  bel : Below w.heap.size w wr
  res : fcsF x = (fcsF rest).map (out ++ ·)
  len : out.length + rest.length ≤ x.length
section
set_option maxRecDepth 100000
set_option maxHeartbeats 8000000
theorem rfacts_any (A : Option Addr) (c : Nat) (x : List UInt8) (w : World) (hr : RB w w.heap.size A x) (hl : x.length ≤ 1099511627776) (hc : x.length ≤ c) (hA : A = none → c = 0) :
    Calls Tryd.prog 74 #[.slice A x.length c] w fun e w' => ∃ v, e = .returned (.tuple #[v, .bool (okF x)]) ∧ RowO w' w.heap.size v (lsF x) ∧ Below w.heap.size w w' := by
  have H0 : Hid (FcSt w w x x A c (.slice none 0 0) []) := ⟨hr, hc, hA, RowO.nil _ _, Below.refl _ _, by simp, by simp⟩
  have Hl := Lib.hid hl
  have Hok : Hid (okF x = match fcsF x with | some (_ :: _) => true | _ => false) := rfl
  have Hls : Hid (lsF x = (fcsF x).getD []) := rfl
  generalize okF x = ok at *
  generalize lsF x = ls at *
  clear hr hl hc hA
  go_enter Tryd.func74, Tryd.ntmps74
  go_wp2_with fail
  go_loopw [0, 4] (fun sv ov wr => ∃ (rest : List UInt8) (A' : Option Addr) (c' : Nat) (out : List Fc), sv = .slice A' rest.length c' ∧ Hid (FcSt w wr x rest A' c' ov out)) (fun sv _ _ => lenS sv)
  case atStart => exact ⟨x, A, c, [], rfl, H0.out⟩
  case round =>
    have hrel0 := hrel
    clear hrel
    obtain ⟨rest, A', c', out, rfl, hst⟩ := hrel0
    obtain ⟨Ao, co, rfl, _⟩ := RowF.shape hst.out.row
    rcases hrest : rest with _ | ⟨y, ys⟩
    · have hf : fcsF x = some out := by rw [hst.out.res, hrest, fcsF_nil]; simp
      have hls : out = ls := by rw [Hls.out, hf]; rfl
      have hok : ok = decide (0 < out.length) := by rw [Hok.out, hf]; cases out <;> rfl
      subst hls
      have hol : out.length ≤ 1099511627776 := by have := hst.out.len; have := Hl.out; omega
      have Hst : Hid (RowO wr w.heap.size (.slice Ao out.length co) out ∧ Below w.heap.size w wr) := ⟨hst.out.row, hst.out.bel⟩
      obtain ⟨no, hno⟩ : ∃ no, no = out.length := ⟨_, rfl⟩
      rw [← hno] at Hst hok ⊢
      clear hst hrest hf Hls Hok H0 hno hol
      by_cases h0 : 0 < no
      · have h0' : (no : Int) > 0 := by omega
        obtain rfl : ok = true := by rw [hok, decide_eq_true h0]
        clear hok
        go_wp2_with fail
        exact bodyPost_ret (v := .tuple #[.slice Ao no co, .bool true]) (by simp [results, Tryd.results74, go_sem]) rfl ⟨_, rfl, Hst.out.1, Hst.out.2⟩
      · have h0' : ¬ (no : Int) > 0 := by omega
        obtain rfl : ok = false := by rw [hok, decide_eq_false h0]
        clear hok
        go_wp2_with fail
        exact bodyPost_ret (v := .tuple #[.slice Ao no co, .bool false]) (by simp [results, Tryd.results74, go_sem]) rfl ⟨_, rfl, Hst.out.1, Hst.out.2⟩
    · have hne : rest ≠ [] := by rw [hrest]; simp
      have hn0 : 0 < rest.length := List.length_pos_iff.2 hne
      rw [← hrest]
      clear hrest
      obtain ⟨b, o, rfl, hb⟩ := hst.out.rd.flat hn0
      have hrl : rest.length ≤ 1099511627776 := by have := hst.out.len; have := Hl.out; omega
      have HR1 := Lib.hid (refReadBy_any (some ⟨b, o, none⟩) c' rest 1024 wr (hst.out.rd.wide hst.out.bel.size) hrl hst.out.cap hst.out.nn (by omega))
      have hrd : Hid (rdF rest = if (readBy rest 1024).2.2 ≠ 0 then none else if (readNum (rest.drop (readBy rest 1024).2.1)).2.2 ≠ 0 then none else if (readBy (rest.drop ((readBy rest 1024).2.1 + (readNum (rest.drop (readBy rest 1024).2.1)).2.1)) 1048576).2.2 ≠ 0 then none else some ((⟨(readBy rest 1024).1.toArray⟩, (readNum (rest.drop (readBy rest 1024).2.1)).1, (readBy (rest.drop ((readBy rest 1024).2.1 + (readNum (rest.drop (readBy rest 1024).2.1)).2.1)) 1048576).1), (readBy rest 1024).2.1 + (readNum (rest.drop (readBy rest 1024).2.1)).2.1 + (readBy (rest.drop ((readBy rest 1024).2.1 + (readNum (rest.drop (readBy rest 1024).2.1)).2.1)) 1048576).2.1)) := rfl
      have Hbad : Hid (rdF rest = none → ok = false ∧ ls = []) := fun q => by
        have hf : fcsF x = none := by rw [hst.out.res, fcsF_none hne q]; rfl
        exact ⟨by rw [Hok.out, hf], by rw [Hls.out, hf]; rfl⟩
      have Hgood : Hid (∀ f n, rdF rest = some (f, n) → fcsF x = (fcsF (rest.drop n)).map ((out ++ [f]) ++ ·)) := fun f n q => by
        rw [hst.out.res, fcsF_some hne q, Option.map_map]
        congr 1
        funext z
        simp
      have Hok1 := Lib.hid (@readBy_ok rest 1024)
      have hn0' : (rest.length : Int) > 0 := by omega
      have Hbel := Lib.hid hst.out.bel
      generalize readBy rest 1024 = r1 at HR1 hrd Hok1
      obtain ⟨kb, k1, e1⟩ := r1
      dsimp only at HR1 hrd Hok1
      by_cases he1 : e1 = 0
      · subst he1
        obtain ⟨q1, q2, q3, q4⟩ := Hok1.out rfl
        obtain ⟨A1, hsl1, hA1, _⟩ := cutB_run b o rest.length c' k1 q2 hst.out.cap
        have hr1 := hA1 wr w.heap.size rest (Nat.le_refl _) hst.out.rd
        have hd1 : (rest.drop k1).length = rest.length - k1 := List.length_drop
        have HR2' := refRn_any A1 (c' - k1) (rest.drop k1) wr w.heap.size hr1 (by omega)
        rw [hd1] at HR2'
        have HR2 := Lib.hid HR2'
        have Hok2 := Lib.hid (@readNum_ok (rest.drop k1))
        have Hq : Hid (0 < k1 ∧ k1 ≤ rest.length ∧ kb.length ≤ 1024 ∧ rest.length ≤ c' ∧ RB wr w.heap.size A1 (rest.drop k1)) := ⟨q1, q2, by omega, hst.out.cap, hr1⟩
        generalize readNum (rest.drop k1) = r2 at HR2 hrd Hok2
        obtain ⟨s, k2, e2⟩ := r2
        unfold rnVal at HR2
        dsimp only at HR2 hrd Hok2
        have hst2 := hst
        clear hst HR2' hr1 hA1 q1 q2 q3 q4 hne hb
        by_cases he2 : e2 = 0
        · subst he2
          obtain ⟨q1, q2, q3, q4⟩ := Hok2.out rfl
          have hlt1 : 0 < (rest.drop k1).length := by omega
          obtain ⟨b1, o1, rfl, _⟩ := Hq.out.2.2.2.2.flat hlt1
          obtain ⟨A2, hsl2, hA2, hne2⟩ := cutB_run b1 o1 (rest.length - k1) (c' - k1) k2 (by omega) (by have := Hq.out.2.2.2.1; omega)
          have hr2 := hA2 wr w.heap.size (rest.drop k1) (by omega) Hq.out.2.2.2.2
          rw [List.drop_drop] at hr2
          have hd2 : (rest.drop (k1 + k2)).length = rest.length - k1 - k2 := by rw [List.length_drop]; omega
          have HR3' := refReadBy_any A2 (c' - k1 - k2) (rest.drop (k1 + k2)) 1048576 wr (hr2.wide hst2.out.bel.size) (by omega) (by have := Hq.out.2.2.2.1; omega) (fun e => absurd e hne2) (by omega)
          rw [hd2] at HR3'
          have HR3 := Lib.hid HR3'
          have Hok3 := Lib.hid (@readBy_ok (rest.drop (k1 + k2)) 1048576)
          have Hq2 : Hid (0 < k2 ∧ k1 + k2 ≤ rest.length ∧ s < two64 ∧ RB wr w.heap.size A2 (rest.drop (k1 + k2))) := ⟨q1, by omega, q4, hr2⟩
          generalize readBy (rest.drop (k1 + k2)) 1048576 = r3 at HR3 hrd Hok3
          obtain ⟨vb, k3, e3⟩ := r3
          dsimp only at HR3 hrd Hok3
          clear HR3' hr2 hA2 q1 q2 q3 q4 hlt1
          by_cases he3 : e3 = 0
          · subst he3
            obtain ⟨q1, q2, q3, q4⟩ := Hok3.out rfl
            rw [hd2] at q2
            have hlt2 : 0 < (rest.drop (k1 + k2)).length := by omega
            obtain ⟨b2, o2, rfl, _⟩ := Hq2.out.2.2.2.flat hlt2
            obtain ⟨A3, hsl3, hA3, hne3⟩ := cutB_run b2 o2 (rest.length - k1 - k2) (c' - k1 - k2) k3 (by omega) (by have := Hq.out.2.2.2.1; omega)
            have hr3 := hA3 wr w.heap.size (rest.drop (k1 + k2)) (by omega) Hq2.out.2.2.2
            rw [List.drop_drop] at hr3
            have hrn : rdF rest = some ((⟨kb.toArray⟩, s, vb), k1 + k2 + k3) := by rw [hrd.out, if_neg (by simp), if_neg (by simp), if_neg (by simp)]
            have Hnext := Lib.hid (Hgood.out _ _ hrn)
            have Hq3 : Hid (RB wr w.heap.size A3 (rest.drop (k1 + k2 + k3)) ∧ k1 + k2 + k3 ≤ rest.length ∧ 0 < k1 + k2 + k3 ∧ vb.length ≤ 1048576 ∧ (rest.drop (k1 + k2 + k3)).length = rest.length - k1 - k2 - k3 ∧ s < two64) := ⟨hr3, by omega, by have := Hq.out.1; omega, by omega, by rw [List.length_drop]; omega, Hq2.out.2.2.1⟩
            clear Hbad Hgood hrd hrn Hok1 Hok2 Hok3 hr3 hA3 q1 q2 q3 q4 hlt2 hd1 hd2 Hls Hok H0 hn0 hrl
            go_wp2_with fail
            refine HR1.out.mono ?_
            rintro e w' ⟨v1, rfl, ⟨Ak, ck, rfl, hk⟩, rfl⟩
            have Hk := Lib.hid hk
            clear HR1 hk
            go_wp2_with fail
            refine HR2.out.mono ?_
            rintro e w' ⟨rfl, rfl⟩
            clear HR2
            go_wp2_with fail
            refine HR3.out.mono ?_
            rintro e w' ⟨v3, rfl, ⟨Av, cv, rfl, hv⟩, rfl⟩
            have Hv := Lib.hid hv
            clear HR3 hv
            go_upto_region 15 with fail
            have HvX : Hid (∀ X, Below wr.heap.size wr X → RB X wr.heap.size Av vb) := fun X hX => Hv.out.below hX
            have HkX : Hid (∀ X, Below wr.heap.size wr X → RB X wr.heap.size Ak kb) := fun X hX => Hk.out.below hX
            have Hb0 : Hid (Below wr.heap.size wr wr.drew) := (Below.refl _ _).drew
            have Hb1 : Hid (Below wr.heap.size wr (wr.alloc (.cells #[] 5))) := (Below.refl _ _).alloc (Nat.le_refl _) _
            have Hb2 : Hid (Below wr.heap.size wr (wr.drew.alloc (.cells #[] 5))) := (Below.refl _ _).drew.alloc (Nat.le_refl _) _
            have Hb3 : Hid (Below wr.heap.size wr (wr.alloc (.cells #[] 5)).drew) := Hb1.out.drew
            have Hm1 : Hid (Own (wr.alloc (.cells #[] 5)) wr.heap.size (.slice (some ⟨wr.heap.size, 0, none⟩) 0 0) []) := Own.made wr _ (Nat.le_refl _)
            have Hm2 : Hid (Own (wr.drew.alloc (.cells #[] 5)) wr.heap.size (.slice (some ⟨wr.heap.size, 0, none⟩) 0 0) []) := Own.made wr.drew _ (Nat.le_refl _)
            have t1 := text_run wr wr.heap.size Ak kb ck (HkX.out _ (Below.refl _ _))
            have t2 := text_run wr.drew wr.heap.size Ak kb ck (HkX.out _ Hb0.out)
            have t3 := text_run _ wr.heap.size Ak kb ck (HkX.out _ Hb1.out)
            have t4 := text_run _ wr.heap.size Ak kb ck (HkX.out _ Hb2.out)
            have t5 := text_run _ wr.heap.size Ak kb ck (HkX.out _ Hb3.out)
            have Hsz : Hid (w.heap.size ≤ wr.heap.size) := hst2.out.bel.size
            clear hsl1 hsl2 hsl3 Hk Hv
            obtain ⟨key, hkey⟩ : ∃ key, (⟨kb.toArray⟩ : ByteArray) = key := ⟨_, rfl⟩
            have Hkey := Lib.hid hkey
            rw [hkey] at t1 t2 t3 t4 t5 Hnext
            clear hkey
            go_region_law (first
              | ((refine step_app_bytes (by rfl) (.tmp 50) (.tmp 51) (by rfl) wr.heap.size _ [] (by rfl) (by first | exact Hm1.out | exact Hm2.out | exact Hm1.out.drew) wr.heap.size Av vb.length cv vb (by rfl) rfl (by first | exact HvX.out _ Hb1.out | exact HvX.out _ Hb2.out | exact HvX.out _ Hb3.out) (by have := Hq3.out; simp; omega) (by first | exact Hb1.out.size | exact Hb2.out.size | exact Hb3.out.size) ?_); intro v2 w2 ho2 hb2 _; have hbw : Below wr.heap.size wr w2 := (by first | exact Hb1.out.trans hb2 | exact Hb2.out.trans hb2 | exact Hb3.out.trans hb2); obtain ⟨A5, c5, e5, _⟩ := ho2.rb; rw [List.nil_append] at e5 ho2; subst e5; have t6 := text_run w2 wr.heap.size Ak kb ck (HkX.out _ hbw); have t7 := text_run w2.drew wr.heap.size Ak kb ck (HkX.out _ hbw.drew); rw [Hkey.out] at t6 t7; have H2 : Hid (Own w2 wr.heap.size (.slice A5 vb.length c5) vb ∧ Below wr.heap.size wr w2) := ⟨ho2, hbw⟩; clear ho2 hbw hb2)
              | ((refine step_row1 (w := w2.alloc (.cells #[.string key, .int .u64 (s : Int), .slice A5 vb.length c5] 40)) (S := Own (w2.alloc (.cells #[.string key, .int .u64 (s : Int), .slice A5 vb.length c5] 40)) w.heap.size) (by rfl) (.tmp 46) (.tmp 54) (by rfl) (key, s, vb) (by rfl) (RowO.below (RowO.below hst2.out.row H2.out.2) ((Below.refl _ _).alloc (Nat.le_refl _) _)) (RP.one w2 (key, s, vb) (.slice A5 vb.length c5)) ((H2.out.1.wide Hsz.out).alloc _) Hq3.out.2.2.2.2.2 (by rfl) 1 (by rfl) (by have := hst2.out.len; have := Hl.out; have := Hq3.out; omega) (by have := H2.out.2.size; have := Hsz.out; simp; omega) ?_); intro v6 w6 r6 g6 _; have H6 : Hid (RowO w6 w.heap.size v6 (out ++ [(key, s, vb)]) ∧ Below w.heap.size w w6 ∧ Below w.heap.size wr w6) := ⟨RowF.snocO (RowO.below (RowO.below hst2.out.row H2.out.2) ((Below.refl _ _).alloc (Nat.le_refl _) _)) r6 g6, (hst2.out.bel.trans ((H2.out.2.alloc H2.out.2.size _).mono Hsz.out)).trans (RowF.grownB (RowO.below (RowO.below hst2.out.row H2.out.2) ((Below.refl _ _).alloc (Nat.le_refl _) _)) g6 (by have := H2.out.2.size; have := Hsz.out; simp; omega)), ((H2.out.2.alloc H2.out.2.size _).mono Hsz.out).trans (RowF.grownB (RowO.below (RowO.below hst2.out.row H2.out.2) ((Below.refl _ _).alloc (Nat.le_refl _) _)) g6 (by have := H2.out.2.size; have := Hsz.out; simp; omega))⟩; obtain ⟨A6, c6, e6, _⟩ := RowF.shape r6; rw [List.length_append] at e6; subst e6; clear r6 g6))
            all_goals
              go_simp
              go_wp2_with fail
              go_roundw
              case rel =>
                refine ⟨rest.drop (k1 + k2 + k3), A3, c' - k1 - k2 - k3, out ++ [(key, s, vb)], by rw [Hq3.out.2.2.2.2.1], ⟨Hq3.out.1.below H6.out.2.2, ?_, fun e => absurd e hne3, H6.out.1, H6.out.2.1, ?_, ?_⟩⟩
                · rw [Hq3.out.2.2.2.2.1]; have := Hq.out.2.2.2.1; omega
                · rw [Hnext.out]
                · rw [Hq3.out.2.2.2.2.1, List.length_append]; have := hst2.out.len; have := Hq3.out; simp; omega
              case measure =>
                show rest.length - k1 - k2 - k3 < rest.length
                have := Hq3.out
                omega
          · have hrn : rdF rest = none := by rw [hrd.out, if_neg (by simp), if_neg (by simp), if_pos he3]
            obtain ⟨rfl, rfl⟩ := Hbad.out hrn
            have he3' : ¬ (e3 : Int) = 0 := by omega
            have he4 : ((e3 : Int) != 0) = true := by rw [bne_iff_ne]; exact he3'
            clear Hbad Hgood hrd hrn hst2 hd1 hd2 hn0 hrl
            go_wp2_with fail
            refine HR1.out.mono ?_
            rintro e w' ⟨v1, rfl, hv1, rfl⟩
            clear HR1
            go_wp2_with fail
            refine HR2.out.mono ?_
            rintro e w' ⟨rfl, rfl⟩
            clear HR2
            go_wp2_with fail
            refine HR3.out.mono ?_
            rintro e w' ⟨v3, rfl, hv3, rfl⟩
            clear HR3
            go_wp2_with fail
            exact bodyPost_ret (v := .tuple #[.slice none 0 0, .bool false]) (by simp [results, Tryd.results74, go_sem]) rfl ⟨_, rfl, RowO.nil _ _, Hbel.out⟩
        · have hrn : rdF rest = none := by rw [hrd.out, if_neg (by simp), if_pos he2]
          obtain ⟨rfl, rfl⟩ := Hbad.out hrn
          have he2' : ¬ (e2 : Int) = 0 := by omega
          have he3 : ((e2 : Int) != 0) = true := by rw [bne_iff_ne]; exact he2'
          clear Hbad Hgood hrd hrn hst2 hd1 hn0 hrl
          go_wp2_with fail
          refine HR1.out.mono ?_
          rintro e w' ⟨v1, rfl, hv1, rfl⟩
          clear HR1
          go_wp2_with fail
          refine HR2.out.mono ?_
          rintro e w' ⟨rfl, rfl⟩
          clear HR2
          go_wp2_with fail
          exact bodyPost_ret (v := .tuple #[.slice none 0 0, .bool false]) (by simp [results, Tryd.results74, go_sem]) rfl ⟨_, rfl, RowO.nil _ _, Hbel.out⟩
      · have hrn : rdF rest = none := by rw [hrd.out, if_pos he1]
        obtain ⟨rfl, rfl⟩ := Hbad.out hrn
        have he1' : ¬ (e1 : Int) = 0 := by omega
        have he2 : ((e1 : Int) != 0) = true := by rw [bne_iff_ne]; exact he1'
        clear Hbad Hgood hrd hrn hst hne hn0 hrl
        go_wp2_with fail
        refine HR1.out.mono ?_
        rintro e w' ⟨v1, rfl, hv1, rfl⟩
        clear HR1
        go_wp2_with fail
        exact bodyPost_ret (v := .tuple #[.slice none 0 0, .bool false]) (by simp [results, Tryd.results74, go_sem]) rfl ⟨_, rfl, RowO.nil _ _, Hbel.out⟩
end
end Go.Proofs.YtghcfmkmndldoaaDoor

/-
  The second saying's index of a table.
-/
namespace Go.Proofs.YtghcfmkmndldoaaDoor
open Go.RowKit Go.Sort Go.Lib

theorem info_rpart : (Tryd.prog.info? 138).map (fun i => (i.zero, i.size, i.bytes)) = some (some (.agg #[.int .i64 0, .int .i64 0, .string ⟨#[]⟩]), 3, 32) := by kernel_rfl
def sumN (ps : List (ByteArray × Nat)) : Nat := (ps.map fun p => p.2).sum
theorem sumN_append (a b : List (ByteArray × Nat)) : sumN (a ++ b) = sumN a + sumN b := by simp [sumN]
theorem sumN_one (k : ByteArray) (n : Nat) : sumN [(k, n)] = n := by simp [sumN]
/-- the cells of a row of parts -/
def ptC : Nat → List (ByteArray × Nat) → List Value
  | _, [] => []
  | at_, (k, n) :: ps => .int .i64 (at_ : Int) :: .int .i64 (n : Int) :: .string k :: ptC (at_ + n) ps
theorem ptC_append : ∀ (a b : List (ByteArray × Nat)) (s : Nat), ptC s (a ++ b) = ptC s a ++ ptC (s + sumN a) b
  | [], b, s => by simp [ptC, sumN]
  | (k, n) :: a, b, s => by
    rw [List.cons_append, ptC, ptC, ptC_append a b (s + n)]
    have : sumN ((k, n) :: a) = n + sumN a := by simp [sumN]
    rw [this, ← Nat.add_assoc]
    rfl
theorem ptC_get : ∀ (ps : List (ByteArray × Nat)) (s i : Nat) (k : ByteArray) (n : Nat), ps[i]? = some (k, n) → (ptC s ps)[i * 3]? = some (.int .i64 ((s + sumN (ps.take i) : Nat) : Int)) ∧ (ptC s ps)[i * 3 + 1]? = some (.int .i64 (n : Int)) ∧ (ptC s ps)[i * 3 + 2]? = some (.string k)
  | [], _, _, _, _, h => by simp at h
  | (k0, n0) :: ps, s, 0, k, n, h => by
    simp at h
    obtain ⟨rfl, rfl⟩ := h
    exact ⟨by simp [ptC, sumN], rfl, rfl⟩
  | (k0, n0) :: ps, s, i + 1, k, n, h => by
    obtain ⟨h1, h2, h3⟩ := ptC_get ps (s + n0) i k n (by simpa using h)
    have : sumN (((k0, n0) :: ps).take (i + 1)) = n0 + sumN (ps.take i) := by simp [sumN]
    rw [this, ptC, show (i + 1) * 3 = i * 3 + 1 + 1 + 1 by omega, ← Nat.add_assoc]
    exact ⟨h1, h2, h3⟩
/-- a row of parts of the call's own -/
def PtRow (w : World) (base : Nat) (v : Value) (ps : List (ByteArray × Nat)) : Prop := w.ownsRow base 138 3 v ps.length (ptC 0 ps)
section
variable {w w' : World} {base B : Nat} {v : Value} {ps : List (ByteArray × Nat)}
theorem PtRow.nil (w : World) (base : Nat) : PtRow w base (.slice none 0 0) [] := World.ownsRow_nil _ _ _ _
theorem PtRow.below (h : PtRow w base v ps) (hb : Below w.heap.size w w') : PtRow w' base v ps := by
  refine ⟨h.1, ?_⟩
  rcases h.2 with q | ⟨g, cap, cur, hv, hg, hh, r⟩
  · exact .inl q
  · exact .inr ⟨g, cap, cur, hv, hg, (hb.block g (Array.getElem?_eq_some_iff.1 hh).1).trans hh, r⟩
theorem PtRow.shape (h : PtRow w base v ps) : ∃ A c, v = .slice A ps.length c ∧ ps.length ≤ c := by
  rcases h.2 with ⟨rfl, h0⟩ | ⟨g, cap, cur, rfl, hb, hg, hn, _⟩
  · exact ⟨none, 0, by rw [h0], by omega⟩
  · exact ⟨_, _, rfl, hn⟩
theorem PtRow.at_ (h : PtRow w base v ps) {i : Nat} {k : ByteArray} {n : Nat} (hi : ps[i]? = some (k, n)) : ∃ g c, v = .slice (some ⟨g, 0, none⟩) ps.length c ∧ g < w.heap.size ∧ w.cell? ⟨g, i * 3, none⟩ = some (.int .i64 ((sumN (ps.take i) : Nat) : Int)) ∧ w.cell? ⟨g, i * 3 + 1, none⟩ = some (.int .i64 (n : Int)) ∧ w.cell? ⟨g, i * 3 + 2, none⟩ = some (.string k) := by
  obtain ⟨c0, c1, c2⟩ := ptC_get ps 0 i k n hi
  rw [Nat.zero_add] at c0
  rcases h.2 with ⟨rfl, h0⟩ | ⟨g, cap, cur, rfl, hb, hg, hn, _⟩
  · have := (List.getElem?_eq_some_iff.1 hi).1
    omega
  · have q0 := World.ownsRow.cells (e := 138) (size := 3) h rfl (i * 3) _ c0
    have q1 := World.ownsRow.cells (e := 138) (size := 3) h rfl (i * 3 + 1) _ c1
    have q2 := World.ownsRow.cells (e := 138) (size := 3) h rfl (i * 3 + 2) _ c2
    rw [add_flat, Nat.zero_add] at q0 q1 q2
    exact ⟨g, cap, rfl, (Array.getElem?_eq_some_iff.1 hg).1, q0, q1, q2⟩
/-- append(v, one part) -/
theorem app_pt {ops : Array Oper} {rest : List Oper} {o : Oper} {a : Act} {Q : Exit → Act → World → Prop} (hgd : o.guard = none) (s x : Operand)
    (ho : o.op = .call { callee := .builtin .append, args := #[s, x], argTypes := #[134, 134] })
    (hs : a.eval s = v) (hrow : PtRow w base v ps) (g c n : Nat) (k : ByteArray) (hx : a.eval x = .slice (some ⟨g, 0, none⟩) 1 c) (hg : Cells w g 138 [.int .i64 ((sumN ps : Nat) : Int), .int .i64 (n : Int), .string k]) (hlen : ps.length + 1 ≤ 1099511627776) (hbase : base ≤ w.heap.size)
    (h : ∀ v' w', PtRow w' base v' (ps ++ [(k, n)]) → Below base w w' → wpList Tryd.prog ops Q rest (a.put o.dst v') w') :
    wpList Tryd.prog ops Q (o :: rest) a w := by
  refine wpList_plain hgd fun K hK => ?_
  obtain ⟨i0, hi0, hz0, hz1, hz2⟩ := info_parts info_rpart
  obtain ⟨v', w', hrun, r2, r3, _, r5⟩ := run_append_own_at (P := Tryd.prog) w base 134 o.type 138 i0 _ 3 32 Tryd.underlying134 hi0 hz0 hz1 hz2 rfl (by omega) v ps.length (ptC 0 ps) hrow ⟨g, 0, none⟩ 1 c [.int .i64 ((sumN ps : Nat) : Int), .int .i64 (n : Int), .string k]
    (by simp) (fun j u hj => by rw [add_flat, Nat.zero_add]; exact hg.cell hj) (fun u hu => by
      simp only [List.mem_cons, List.not_mem_nil, or_false] at hu
      rcases hu with rfl | rfl | rfl <;> rfl) (by simp only [maxLen]; omega) (by omega) hbase
  unfold Oper.wp execOp
  simp only [ho, resolve, invoke, builtin, Sem.run_bind, Sem.run_pure, Result.andThen_ok, List.map_toArray, List.map_cons, List.map_nil, hs, hx]
  rw [show (Builtin.append_ #[134, 134] o.type #[v, .slice (some ⟨g, 0, none⟩) 1 c]).run Tryd.prog w = .ok v' w' from hrun]
  refine hK _ _ (h v' w' ?_ ((Below.refl _ _).grown r3 hbase fun j hj => (World.ownsRow.lt hrow j hj).1))
  unfold PtRow
  rw [List.length_append, ptC_append]
  simpa [ptC] using r2
end
/-- where the loop stands -/
structure IxSt (w wr : World) (x rest : List UInt8) (A' : Option Addr) (c' n : Nat) (lv : Value) (ps : List (ByteArray × Nat)) : Prop where
  rd : RB wr w.heap.size A' rest
  cap : rest.length ≤ c'
  nn : A' = none → c' = 0
  row : PtRow wr w.heap.size lv ps
  bel : Below w.heap.size w wr
  res : partsF x n = (partsF rest (n - sumN ps)).map (ps ++ ·)
  len : ps.length + rest.length ≤ x.length
  le : sumN ps ≤ n
section
set_option maxRecDepth 100000
set_option maxHeartbeats 8000000
theorem rindex_any (A : Option Addr) (c n : Nat) (x : List UInt8) (w : World) (hr : RB w w.heap.size A x) (hl : x.length ≤ 1099511627776) (hc : x.length ≤ c) (hA : A = none → c = 0) (hn : n ≤ 1099511627776) :
    Calls Tryd.prog 73 #[.slice A x.length c, .int .i64 (n : Int)] w fun e w' => ∃ A' m c', e = .returned (.tuple #[.slice A' m c', .bool (partsF x n).isSome]) ∧ (∀ ps, partsF x n = some ps → PtRow w' w.heap.size (.slice A' m c') ps) ∧ Below w.heap.size w w' := by
  have H0 : Hid (IxSt w w x x A c n (.slice none 0 0) []) := ⟨hr, hc, hA, PtRow.nil _ _, Below.refl _ _, by simp [sumN], by simp, Nat.zero_le _⟩
  have Hl := Lib.hid hl
  obtain ⟨po, hpo⟩ : ∃ po, po = partsF x n := ⟨_, rfl⟩
  rw [← hpo]
  have Hpo := Lib.hid hpo
  have hn' : (n : Int) ≤ 1099511627776 := by omega
  clear hr hl hc hA hpo hn
  go_enter Tryd.func73, Tryd.ntmps73
  go_wp2_with fail
  go_loopw [0, 6, 7] (fun sv lv tv wr => ∃ (rest : List UInt8) (A' : Option Addr) (c' m : Nat) (ps : List (ByteArray × Nat)), sv = .slice A' rest.length c' ∧ tv = .int .i64 (m : Int) ∧ Hid (m = sumN ps) ∧ Hid (IxSt w wr x rest A' c' n lv ps)) (fun sv _ _ _ => lenS sv)
  case atStart => exact ⟨x, A, c, 0, [], rfl, rfl, rfl, H0.out⟩
  case round =>
    have hrel0 := hrel
    clear hrel
    obtain ⟨rest, A', c', m, ps, rfl, rfl, hm, hst⟩ := hrel0
    obtain ⟨Al, cl, rfl, _⟩ := hst.out.row.shape
    rcases hrest : rest with _ | ⟨y, ys⟩
    · have hp : po = if n - m = 0 then some ps else none := by
        rw [Hpo.out, hst.out.res, hrest, partsF_nil, ← hm.out]
        split <;> simp
      have hle := hst.out.le
      rw [← hm.out] at hle
      have Hst : Hid (PtRow wr w.heap.size (.slice Al ps.length cl) ps ∧ Below w.heap.size w wr) := ⟨hst.out.row, hst.out.bel⟩
      generalize ps.length = np at *
      clear hst hrest H0 hm Hpo
      by_cases h0 : m = n
      · obtain rfl : po = some ps := by rw [hp, if_pos (by omega)]
        have h0' : (m : Int) = (n : Int) := by omega
        have h1 : ((m : Int) == (n : Int)) = true := by rw [beq_iff_eq]; exact h0'
        clear h0' h0 hp
        go_wp2_with fail
        exact bodyPost_ret (v := .tuple #[.slice Al np cl, .bool true]) (by simp [results, Tryd.results73, go_sem]) rfl ⟨Al, np, cl, rfl, fun ps' e => by cases e; exact Hst.out.1, Hst.out.2⟩
      · obtain rfl : po = none := by rw [hp, if_neg (by omega)]
        have h0' : ¬ (m : Int) = (n : Int) := by omega
        have h1 : ((m : Int) == (n : Int)) = false := by rw [beq_eq_false_iff_ne]; exact h0'
        clear h0 hp
        go_wp2_with fail
        exact bodyPost_ret (v := .tuple #[.slice Al np cl, .bool false]) (by simp [results, Tryd.results73, go_sem]) rfl ⟨Al, np, cl, rfl, (fun ps' e => by cases e), Hst.out.2⟩
    · have hne : rest ≠ [] := by rw [hrest]; simp
      have hn0 : 0 < rest.length := List.length_pos_iff.2 hne
      rw [← hrest]
      clear hrest
      obtain ⟨b, o, rfl, hb⟩ := hst.out.rd.flat hn0
      have hrl : rest.length ≤ 1099511627776 := by have := hst.out.len; have := Hl.out; omega
      have HR1 := Lib.hid (refReadBy_any (some ⟨b, o, none⟩) c' rest 1024 wr (hst.out.rd.wide hst.out.bel.size) hrl hst.out.cap hst.out.nn (by omega))
      have hrd : Hid (entR rest (n - m) = if (readBy rest 1024).2.2 ≠ 0 then none else if (readNum (rest.drop (readBy rest 1024).2.1)).2.2 ≠ 0 ∨ (readNum (rest.drop (readBy rest 1024).2.1)).1 < 5 ∨ n - m < (readNum (rest.drop (readBy rest 1024).2.1)).1 then none else some ((⟨(readBy rest 1024).1.toArray⟩, (readNum (rest.drop (readBy rest 1024).2.1)).1), (readBy rest 1024).2.1 + (readNum (rest.drop (readBy rest 1024).2.1)).2.1)) := rfl
      have Hbad : Hid (entR rest (n - m) = none → po = none) := fun q => by
        rw [Hpo.out, hst.out.res, ← hm.out, partsF_none hne q]; rfl
      have Hgood : Hid (∀ p j, entR rest (n - m) = some (p, j) → partsF x n = (partsF (rest.drop j) (n - m - p.2)).map ((ps ++ [p]) ++ ·)) := fun p j q => by
        rw [hst.out.res, ← hm.out, partsF_some hne q, Option.map_map]
        congr 1
        funext z
        simp
      have Hok1 := Lib.hid (@readBy_ok rest 1024)
      have hn0' : (rest.length : Int) > 0 := by omega
      have Hbel := Lib.hid hst.out.bel
      have hle := hst.out.le
      rw [← hm.out] at hle
      have hle' : (m : Int) ≤ (n : Int) := by omega
      generalize readBy rest 1024 = r1 at HR1 hrd Hok1
      obtain ⟨kb, k1, e1⟩ := r1
      dsimp only at HR1 hrd Hok1
      by_cases he1 : e1 = 0
      · subst he1
        obtain ⟨q1, q2, q3, q4⟩ := Hok1.out rfl
        obtain ⟨A1, hsl1, hA1, _⟩ := cutB_run b o rest.length c' k1 q2 hst.out.cap
        have hr1 := hA1 wr w.heap.size rest (Nat.le_refl _) hst.out.rd
        have hd1 : (rest.drop k1).length = rest.length - k1 := List.length_drop
        have HR2' := refRn_any A1 (c' - k1) (rest.drop k1) wr w.heap.size hr1 (by omega)
        rw [hd1] at HR2'
        have HR2 := Lib.hid HR2'
        have Hok2 := Lib.hid (@readNum_ok (rest.drop k1))
        have Hq : Hid (0 < k1 ∧ k1 ≤ rest.length ∧ kb.length ≤ 1024 ∧ rest.length ≤ c' ∧ RB wr w.heap.size A1 (rest.drop k1)) := ⟨q1, q2, by omega, hst.out.cap, hr1⟩
        generalize readNum (rest.drop k1) = r2 at HR2 hrd Hok2
        obtain ⟨s, k2, e2⟩ := r2
        unfold rnVal at HR2
        dsimp only at HR2 hrd Hok2
        have hst2 := hst
        have hwi : IntKind.i64.wrap ((n : Int) - (m : Int)) = (n : Int) - (m : Int) := by rw [IntKind.wrap_i64]; omega
        have hwu : IntKind.u64.wrap ((n : Int) - (m : Int)) = (n : Int) - (m : Int) := by rw [IntKind.wrap_u64]; omega
        clear hst HR2' hr1 hA1 q1 q2 q3 q4 hne hb
        by_cases he2 : e2 = 0
        · subst he2
          by_cases hs1 : n - m < s
          · have hrn : entR rest (n - m) = none := by rw [hrd.out, if_neg (by simp), if_pos (.inr (.inr hs1))]
            obtain rfl : po = none := Hbad.out hrn
            have hs1' : (s : Int) > (n : Int) - (m : Int) := by omega
            clear Hbad Hgood hrd hrn hst2 hd1 hn0 hrl
            go_wp2_with fail
            refine HR1.out.mono ?_
            rintro e w' ⟨v1, rfl, hv1, rfl⟩
            clear HR1
            go_wp2_with fail
            refine HR2.out.mono ?_
            rintro e w' ⟨rfl, rfl⟩
            clear HR2
            go_wp2_with fail
            exact bodyPost_ret (v := .tuple #[.slice none 0 0, .bool false]) (by simp [results, Tryd.results73, go_sem]) rfl ⟨none, 0, 0, rfl, (fun ps' e => by cases e), Hbel.out⟩
          · have hs1' : ¬ (s : Int) > (n : Int) - (m : Int) := by omega
            by_cases hs5 : s < 5
            · have hrn : entR rest (n - m) = none := by rw [hrd.out, if_neg (by simp), if_pos (.inr (.inl hs5))]
              obtain rfl : po = none := Hbad.out hrn
              have hs5' : (s : Int) < 5 := by omega
              clear Hbad Hgood hrd hrn hst2 hd1 hn0 hrl
              go_wp2_with fail
              refine HR1.out.mono ?_
              rintro e w' ⟨v1, rfl, hv1, rfl⟩
              clear HR1
              go_wp2_with fail
              refine HR2.out.mono ?_
              rintro e w' ⟨rfl, rfl⟩
              clear HR2
              go_wp2_with fail
              exact bodyPost_ret (v := .tuple #[.slice none 0 0, .bool false]) (by simp [results, Tryd.results73, go_sem]) rfl ⟨none, 0, 0, rfl, (fun ps' e => by cases e), Hbel.out⟩
            · have hs5' : ¬ (s : Int) < 5 := by omega
              obtain ⟨q1, q2, q3, q4⟩ := Hok2.out rfl
              have hlt1 : 0 < (rest.drop k1).length := by omega
              obtain ⟨b1, o1, rfl, _⟩ := Hq.out.2.2.2.2.flat hlt1
              obtain ⟨A2, hsl2, hA2, hne2⟩ := cutB_run b1 o1 (rest.length - k1) (c' - k1) k2 (by omega) (by have := Hq.out.2.2.2.1; omega)
              have hr2 := hA2 wr w.heap.size (rest.drop k1) (by omega) Hq.out.2.2.2.2
              rw [List.drop_drop] at hr2
              have hrn : entR rest (n - m) = some ((⟨kb.toArray⟩, s), k1 + k2) := by rw [hrd.out, if_neg (by simp), if_neg (by rintro (h | h | h); exact h rfl; exact hs5 h; exact hs1 h)]
              have Hnext := Lib.hid (Hgood.out _ _ hrn)
              have Hq3 : Hid (RB wr w.heap.size A2 (rest.drop (k1 + k2)) ∧ k1 + k2 ≤ rest.length ∧ 0 < k1 + k2 ∧ (rest.drop (k1 + k2)).length = rest.length - k1 - k2 ∧ s ≤ n - m) := ⟨hr2, by omega, by have := Hq.out.1; omega, by rw [List.length_drop]; omega, by omega⟩
              have hws : IntKind.i64.wrap (s : Int) = (s : Int) := by rw [IntKind.wrap_i64]; omega
              have hwa : IntKind.i64.wrap ((m : Int) + (s : Int)) = (m : Int) + (s : Int) := by rw [IntKind.wrap_i64]; omega
              clear Hbad Hgood hrd hrn Hok1 Hok2 hr2 hA2 q1 q2 q3 q4 hlt1 hd1 H0 hn0 hrl hs1 hs5
              go_wp2_with fail
              refine HR1.out.mono ?_
              rintro e w' ⟨v1, rfl, ⟨Ak, ck, rfl, hk⟩, rfl⟩
              have t1 := text_run wr wr.heap.size Ak kb ck hk
              clear HR1 hk
              go_wp2_with fail
              refine HR2.out.mono ?_
              rintro e w' ⟨rfl, rfl⟩
              clear HR2
              generalize (⟨kb.toArray⟩ : ByteArray) = key at *
              have hbA : Below wr.heap.size wr (wr.alloc (.cells #[.int .i64 (m : Int), .int .i64 (s : Int), .string key] 138)) := (Below.refl _ _).alloc (Nat.le_refl _) _
              have HrowA : Hid (PtRow (wr.alloc (.cells #[.int .i64 (m : Int), .int .i64 (s : Int), .string key] 138)) w.heap.size (.slice Al ps.length cl) ps ∧ Cells (wr.alloc (.cells #[.int .i64 (m : Int), .int .i64 (s : Int), .string key] 138)) wr.heap.size 138 [.int .i64 ((sumN ps : Nat) : Int), .int .i64 (s : Int), .string key] ∧ Below w.heap.size w (wr.alloc (.cells #[.int .i64 (m : Int), .int .i64 (s : Int), .string key] 138))) := ⟨hst2.out.row.below hbA, by rw [← hm.out]; exact Cells.new wr _ _, hst2.out.bel.trans (hbA.mono hst2.out.bel.size)⟩
              clear hbA
              go_upto_region 12 with fail
              go_upto_region 13 with (at_builtin; go_must (refine app_pt rfl (.tmp 49) (.tmp 56) rfl rfl HrowA.out.1 wr.heap.size 1 s key rfl HrowA.out.2.1 (by have := hst2.out.len; have := Hl.out; have := Hq3.out; omega) HrowA.out.2.2.size ?_); intro v6 w6 r6 b6; have H6 : Hid (PtRow w6 w.heap.size v6 (ps ++ [(key, s)]) ∧ Below w.heap.size w w6 ∧ Below w.heap.size wr w6) := ⟨r6, HrowA.out.2.2.trans b6, (((Below.refl wr.heap.size wr).alloc (Nat.le_refl _) _).mono hst2.out.bel.size).trans b6⟩; clear r6 b6)
              clear HrowA
              go_wp2_with fail
              go_roundw
              case rel =>
                refine ⟨rest.drop (k1 + k2), A2, c' - k1 - k2, m + s, ps ++ [(key, s)], by rw [Hq3.out.2.2.2.1], (by first | rfl | go_num), ?_, ⟨Hq3.out.1.below H6.out.2.2, ?_, fun e => absurd e hne2, H6.out.1, H6.out.2.1, ?_, ?_, ?_⟩⟩
                · show _ = _; rw [sumN_append, sumN_one, hm.out]
                · rw [Hq3.out.2.2.2.1]; have := Hq.out.2.2.2.1; omega
                · rw [Hnext.out, sumN_append, sumN_one, ← hm.out]; congr 2; omega
                · rw [Hq3.out.2.2.2.1, List.length_append]; have := hst2.out.len; have := Hq3.out; simp; omega
                · rw [sumN_append, sumN_one, ← hm.out]; have := Hq3.out; omega
              case measure =>
                show rest.length - k1 - k2 < rest.length
                have := Hq3.out
                omega
        · have hrn : entR rest (n - m) = none := by rw [hrd.out, if_neg (by simp), if_pos (.inl he2)]
          obtain rfl : po = none := Hbad.out hrn
          have he2' : ¬ (e2 : Int) = 0 := by omega
          have he3 : ((e2 : Int) != 0) = true := by rw [bne_iff_ne]; exact he2'
          clear Hbad Hgood hrd hrn hst2 hd1 hn0 hrl
          go_wp2_with fail
          refine HR1.out.mono ?_
          rintro e w' ⟨v1, rfl, hv1, rfl⟩
          clear HR1
          go_wp2_with fail
          refine HR2.out.mono ?_
          rintro e w' ⟨rfl, rfl⟩
          clear HR2
          go_wp2_with fail
          exact bodyPost_ret (v := .tuple #[.slice none 0 0, .bool false]) (by simp [results, Tryd.results73, go_sem]) rfl ⟨none, 0, 0, rfl, (fun ps' e => by cases e), Hbel.out⟩
      · have hrn : entR rest (n - m) = none := by rw [hrd.out, if_pos he1]
        obtain rfl : po = none := Hbad.out hrn
        have he1' : ¬ (e1 : Int) = 0 := by omega
        have he2 : ((e1 : Int) != 0) = true := by rw [bne_iff_ne]; exact he1'
        clear Hbad Hgood hrd hrn hst hne hn0 hrl
        go_wp2_with fail
        refine HR1.out.mono ?_
        rintro e w' ⟨v1, rfl, hv1, rfl⟩
        clear HR1
        go_wp2_with fail
        exact bodyPost_ret (v := .tuple #[.slice none 0 0, .bool false]) (by simp [results, Tryd.results73, go_sem]) rfl ⟨none, 0, 0, rfl, (fun ps' e => by cases e), Hbel.out⟩
end
end Go.Proofs.YtghcfmkmndldoaaDoor

/-
  The second saying's Open.
-/
namespace Go.Proofs.YtghcfmkmndldoaaDoor
open Go.RowKit Go.Sort Go.Lib

theorem partsF_sum : ∀ (n : Nat) (x : List UInt8) (left : Nat) (ps : List (ByteArray × Nat)), x.length ≤ n → partsF x left = some ps → sumN ps = left ∧ ∀ p ∈ ps, 5 ≤ p.2
  | 0, x, left, ps, hn, h => by
    have : x = [] := List.eq_nil_of_length_eq_zero (by omega)
    subst this
    rw [partsF_nil] at h
    split at h
    · cases h; exact ⟨by simp [sumN]; omega, fun p hp => by cases hp⟩
    · cases h
  | n + 1, x, left, ps, hn, h => by
    by_cases hx : x = []
    · subst hx
      rw [partsF_nil] at h
      split at h
      · cases h; exact ⟨by simp [sumN]; omega, fun p hp => by cases hp⟩
      · cases h
    · cases hr : entR x left with
      | none => rw [partsF_none hx hr] at h; cases h
      | some p =>
        obtain ⟨q, m⟩ := p
        rw [partsF_some hx hr] at h
        have h1 := entR_ok hr
        cases hq : partsF (x.drop m) (left - q.2) with
        | none => rw [hq] at h; cases h
        | some ps' =>
          rw [hq] at h
          have := partsF_sum n (x.drop m) _ ps' (by rw [List.length_drop]; omega) hq
          cases h
          refine ⟨by simp only [sumN, List.map_cons, List.sum_cons] at this ⊢; omega, fun p hp => ?_⟩
          rcases List.mem_cons.1 hp with rfl | hp
          · exact h1.2.2.1
          · exact this.2 p hp
theorem cutsF_get : ∀ (ps : List (ByteArray × Nat)) (b : List UInt8) (i : Nat) (k : ByteArray) (n : Nat), ps[i]? = some (k, n) → (cutsF ps b)[i]? = some (k, (b.drop (sumN (ps.take i))).take n)
  | [], _, _, _, _, h => by simp at h
  | (k0, n0) :: ps, b, 0, k, n, h => by
    simp at h
    obtain ⟨rfl, rfl⟩ := h
    simp [cutsF, sumN]
  | (k0, n0) :: ps, b, i + 1, k, n, h => by
    rw [cutsF, List.getElem?_cons_succ, cutsF_get ps (b.drop n0) i k n (by simpa using h), List.drop_drop]
    have : sumN (((k0, n0) :: ps).take (i + 1)) = n0 + sumN (ps.take i) := by simp [sumN]
    rw [this]
theorem sumN_le {ps : List (ByteArray × Nat)} {i : Nat} {k : ByteArray} {n : Nat} (h : ps[i]? = some (k, n)) : sumN (ps.take i) + n ≤ sumN ps := by
  have h1 := sumN_append (ps.take (i + 1)) (ps.drop (i + 1))
  rw [List.take_append_drop, List.take_add_one, h, sumN_append] at h1
  have : sumN [(k, n)] = n := sumN_one k n
  simp only [Option.toList_some] at h1
  omega
theorem oneF_none {k : ByteArray} {b : List UInt8} (h : unF b = none) : oneF k b = ([], 23) := by unfold oneF; rw [h]
theorem oneF_bad {k : ByteArray} {b y : List UInt8} (h : unF b = some y) (ho : okF y = false) : oneF k b = ([], 24) := by
  unfold oneF
  rw [h]
  unfold okF at ho
  dsimp only
  split
  · rename_i f l hf; rw [hf] at ho; cases ho
  · rfl
theorem okF_ls {y : List UInt8} (ho : okF y = true) : ∃ f l, lsF y = f :: l ∧ fcsF y = some (f :: l) := by
  unfold okF at ho
  unfold lsF
  split at ho
  · rename_i f l hf; exact ⟨f, l, by rw [hf]; rfl, hf⟩
  · cases ho
theorem oneF_key {k : ByteArray} {b y : List UInt8} {f : Fc} {l : List Fc} (h : unF b = some y) (hf : fcsF y = some (f :: l)) : oneF k b = if f.1 = k then (f :: l, 0) else ([], 24) := by
  unfold oneF
  rw [h]
  dsimp only
  rw [hf]
theorem unF_eq {b y : List UInt8} (h : unF b = some y) : y = b.drop 4 ∧ 4 ≤ b.length := by
  unfold unF at h
  split at h
  · rename_i q; cases h; exact ⟨rfl, q.1⟩
  · cases h
/-- bytes from one place up to another -/
theorem cut2_run (b o n c lo hi : Nat) (h1 : lo ≤ hi) (h2 : hi ≤ c) (h3 : lo < c) (W : World) (z1 z2 : Int) (e1 : z1 = (lo : Int)) (e2 : z2 = (hi : Int)) : (Instr.sliceAt 25 (.slice (some ⟨b, o, none⟩) n c) (some (.int .i64 z1)) (some (.int .i64 z2)) none).run Tryd.prog W = .ok (.slice (some ⟨b, o + lo, none⟩) (hi - lo) (c - lo)) W := by
  subst e1
  subst e2
  have h4 : (lo : Int) ≤ (hi : Int) := by omega
  have h5 : (hi : Int) ≤ (c : Int) := by omega
  have h6 : ¬ c = lo := by omega
  have h7 : ¬ lo = c := by omega
  simp [go_sem, h4, h5, h6, h7, sliced, Addr.add]
section
set_option maxRecDepth 100000
set_option maxHeartbeats 8000000
theorem ropen_any (A : Option Addr) (c : Nat) (l : List UInt8) (w : World) (hr : RB w w.heap.size A l) (hl : l.length ≤ 1099511627776) (hc : l.length ≤ c) :
    Calls Tryd.prog 31 #[.slice A l.length c] w fun e w' => ∃ A' mm c', e = .returned (.tuple #[.slice A' mm c', .int .i64 ((openF l).2 : Nat)]) ∧ RowO w' w.heap.size (.slice A' mm c') (openF l).1 ∧ Below w.heap.size w w' := by
  have Herr := Lib.hid (@openF_err l)
  have Hok := Lib.hid (fun x m cnt h => openF_ok l x m cnt h)
  have hE : Hid (endsE l = _) := (by rw [endsE] : endsE l = _)
  obtain ⟨R0, hR0⟩ : ∃ R0, R0 = openF l := ⟨_, rfl⟩
  rw [← hR0] at Herr Hok ⊢
  generalize endsE l = er at *
  clear hR0
  by_cases h12 : l.length < 12
  · have he : er = 21 := by rw [hE.out, if_pos h12]
    subst he
    obtain rfl : R0 = ([], 21) := Herr.out (by decide)
    have h12' : (l.length : Int) < 12 := by omega
    generalize l.length = n at *
    clear hE hr Hok Herr
    go_enter Tryd.func31, Tryd.ntmps31
    go_wp2_with fail
    exact bodyPost_ret (v := .tuple #[.slice none 0 0, .int .i64 21]) (by simp [results, Tryd.results31, go_sem]) rfl ⟨none, 0, 0, rfl, RowO.nil _ _, Below.refl _ _⟩
  obtain ⟨m, hm⟩ : ∃ m, l.length = m + 12 := ⟨l.length - 12, by omega⟩
  obtain ⟨b, o, rfl, hb⟩ := hr.flat (by omega)
  obtain ⟨d, rfl⟩ : ∃ d, c = m + d := ⟨c - m, by omega⟩
  have hd : 12 ≤ d := by omega
  have hw1 : IntKind.i64.wrap ((m : Int) + 12 - 12) = (m : Int) := by rw [show ((m : Int) + 12) - 12 = (m : Int) by omega, IntKind.wrap_i64]; omega
  have hw2 : IntKind.i64.wrap (m : Int) = (m : Int) := by rw [IntKind.wrap_i64]; omega
  have hb12 : ¬ (m : Int) + 12 < 12 := by omega
  have hsl1 : ∀ W : World, (Instr.sliceAt 25 (.slice (some ⟨b, o, none⟩) (m + 12) (m + d)) (some (.int .i64 (m : Int))) none none).run Tryd.prog W = .ok (.slice (some ⟨b, o + m, none⟩) 12 d) W := fun W => by
    have := cutB_lt b o (m + 12) (m + d) m (by omega) (by omega) W
    rw [Nat.add_sub_cancel_left, Nat.add_sub_cancel_left] at this
    exact this
  have hsl8 : ∀ W : World, (Instr.sliceAt 25 (.slice (some ⟨b, o + m, none⟩) 12 d) (some (.int .i64 8)) none none).run Tryd.prog W = .ok (.slice (some ⟨b, o + m + 8, none⟩) 4 (d - 8)) W := fun W => cutB_lt b (o + m) 12 d 8 (by omega) (by omega) W
  have hsl4 : ∀ W : World, (Instr.sliceAt 25 (.slice (some ⟨b, o + m, none⟩) 12 d) (some (.int .i64 4)) none none).run Tryd.prog W = .ok (.slice (some ⟨b, o + m + 4, none⟩) 8 (d - 4)) W := fun W => cutB_lt b (o + m) 12 d 4 (by omega) (by omega) W
  have hr1 := hr.cutFlat m
  have hln : (l.drop m).length = 12 := by rw [List.length_drop]; omega
  have hlm : l.length - 12 = m := by omega
  rw [hlm] at hE
  have HF8 : Hid (∀ X, Below w.heap.size w X → Calls Tryd.prog 70 #[.slice (some ⟨b, o + m + 8, none⟩) 4 (d - 8)] X fun e w' => e = .returned (.int .u32 (leNat (((l.drop m).drop 8).take 4) : Nat)) ∧ ∃ n, w' = X.drewN n) := fun X hX => by
    have h4 : ((l.drop m).drop 8).length = 4 := by rw [List.length_drop, hln]
    have := readFour_any (some ⟨b, o + m + 8, none⟩) (d - 8) ((l.drop m).drop 8) X w.heap.size ((hr1.cutFlat 8).below hX) (by omega) (by omega)
    rw [h4] at this
    exact this
  have HS8 : Hid (∀ X, Below w.heap.size w X → Calls Tryd.prog 66 #[.slice (some ⟨b, o + m, none⟩) 8 d] X fun e w' => e = .returned (.int .u32 (sumOf ((l.drop m).take 8) : Nat)) ∧ X = w') := fun X hX => by
    have h4 : ((l.drop m).take 8).length = 8 := by rw [List.length_take, hln]; rfl
    have := refSum_any (some ⟨b, o + m, none⟩) d ((l.drop m).take 8) X w.heap.size ((hr1.take 8).below hX) (by omega)
    rw [h4] at this
    exact this
  have HL0 : Hid (∀ X, Below w.heap.size w X → Calls Tryd.prog 71 #[.slice (some ⟨b, o + m, none⟩) 12 d, .int .i64 4] X fun e w' => e = .returned (.int .u64 (leNat ((l.drop m).take 4) : Nat)) ∧ X = w') := fun X hX => by
    have := readLow_any (some ⟨b, o + m, none⟩) d (l.drop m) 4 X w.heap.size (hr1.below hX) (by omega) (by omega) (by omega)
    rw [hln] at this
    exact this
  have HL4 : Hid (∀ X, Below w.heap.size w X → Calls Tryd.prog 71 #[.slice (some ⟨b, o + m + 4, none⟩) 8 (d - 4), .int .i64 4] X fun e w' => e = .returned (.int .u64 (leNat (((l.drop m).drop 4).take 4) : Nat)) ∧ X = w') := fun X hX => by
    have h4 : ((l.drop m).drop 4).length = 8 := by rw [List.length_drop, hln]
    have := readLow_any (some ⟨b, o + m + 4, none⟩) (d - 4) ((l.drop m).drop 4) 4 X w.heap.size ((hr1.cutFlat 4).below hX) (by omega) (by omega) (by omega)
    rw [h4] at this
    exact this
  have h8d : 8 ≤ d := by omega
  have h8d' : (8 : Int) ≤ (d : Int) := by omega
  have hE2 : Hid (er = if leNat (((l.drop m).drop 8).take 4) ≠ sumOf ((l.drop m).take 8) then 23 else if m < leNat ((l.drop m).take 4) then 21 else if (unF ((l.take m).drop (m - leNat ((l.drop m).take 4)))).isSome = true then 0 else 23) := by show _ = _; rw [hE.out, if_neg h12]
  rw [hm]
  have Hr := Lib.hid hr
  have Hm : Hid (l.length = m + 12 ∧ l.length ≤ 1099511627776 ∧ b < w.heap.size) := ⟨hm, hl, hb⟩
  have HSl : Hid (leNat ((l.drop m).take 4) < 4294967296) := leNat_lt4 _ (by rw [List.length_take]; omega)
  generalize hp : leNat (((l.drop m).drop 8).take 4) = p at *
  generalize hSe : leNat ((l.drop m).take 4) = S at *
  generalize hcn : leNat (((l.drop m).drop 4).take 4) = cnt at *
  have Hlv : Hid (S = leNat ((l.drop m).take 4) ∧ cnt = leNat (((l.drop m).drop 4).take 4)) := ⟨hSe.symm, hcn.symm⟩
  have Hcnt : Hid (cnt < 4294967296) := by show _ < _; rw [← hcn]; exact leNat_lt4 _ (by rw [List.length_take]; omega)
  generalize sumOf ((l.drop m).take 8) = q at *
  have Hb0 : Hid (Below w.heap.size w w) := Below.refl _ _
  clear hr hE hr1 hln hm hl h12 hb hlm hc hp hSe hcn
  go_enter Tryd.func31, Tryd.ntmps31
  go_upto_region 4 with fail
  by_cases hpq : p = q
  · subst hpq
    have hE3 : Hid (er = if m < S then 21 else if (unF ((l.take m).drop (m - S))).isSome = true then 0 else 23) := by show _ = _; rw [hE2.out]; simp
    have hpp : ((p : Int) != (p : Int)) = false := by simp
    clear hE2
    go_cut [30] (fun v wx => v = .bool false ∧ Hid (Below w.heap.size w wx))
    case first => as_aux_lemma =>
      clear HL0 HL4 Hr Hm HSl Hlv Hcnt Hok Herr hE3
      go_region_law (first
        | (go_simp; go_at_call 66; refine (HS8.out _ (by first | exact Hb0.out | exact Hb0.out.drew)).mono ?_; rintro e w2 ⟨rfl, rfl⟩)
        | (go_simp; go_at_call 70; refine (HF8.out _ (by first | exact Hb0.out | exact Hb0.out.drew)).mono ?_; rintro e w3 ⟨rfl, n3, rfl⟩; have H3 : Hid (Below w.heap.size w _) := (by first | exact below_drewN Hb0.out n3 | exact below_drewN Hb0.out.drew n3)))
      all_goals
        go_wp2_with fail
        go_meet
        exact ⟨rfl, below_drewN (Below.refl _ _) _⟩
    case rest =>
      obtain ⟨rfl, Hbc⟩ := hcut
      have HL0w := Lib.hid (HL0.out wc Hbc.out)
      have HL4w := Lib.hid (HL4.out wc Hbc.out)
      have hw3 : IntKind.u64.wrap (m : Int) = (m : Int) := by rw [IntKind.wrap_u64]; have := Hm.out; omega
      clear HS8 HF8 Hb0 hpp HL0 HL4 hsl8
      go_wp2_with fail
      refine HL0w.out.mono ?_
      rintro e w' ⟨rfl, rfl⟩
      clear HL0w
      go_wp2_with fail
      refine HL4w.out.mono ?_
      rintro e w' ⟨rfl, rfl⟩
      clear HL4w
      by_cases hSm : m < S
      · have he : er = 21 := by rw [hE3.out, if_pos hSm]
        subst he
        obtain rfl : R0 = ([], 21) := Herr.out (by decide)
        have hSm' : (S : Int) > (m : Int) := by omega
        clear hE3 Hok Herr
        go_wp2_with fail
        exact bodyPost_ret (v := .tuple #[.slice none 0 0, .int .i64 21]) (by simp [results, Tryd.results31, go_sem]) rfl ⟨none, 0, 0, rfl, RowO.nil _ _, Hbc.out⟩
      have hSm' : ¬ (S : Int) > (m : Int) := by omega
      obtain ⟨t, ht⟩ : ∃ t, t = m - S := ⟨_, rfl⟩
      have Ht : Hid (m = t + S ∧ t = m - S) := ⟨by omega, ht⟩
      have hE4 : Hid (er = if (unF ((l.take m).drop t)).isSome = true then 0 else 23) := by show _ = _; rw [hE3.out, if_neg hSm, ht]
      have hw4 : IntKind.i64.wrap (S : Int) = (S : Int) := by rw [IntKind.wrap_i64]; have := HSl.out; omega
      have hw5 : IntKind.i64.wrap ((m : Int) - (S : Int)) = (t : Int) := by rw [IntKind.wrap_i64]; have := Hm.out; omega
      have hslx : ∀ W : World, (Instr.sliceAt 25 (.slice (some ⟨b, o, none⟩) (m + 12) (m + d)) (some (.int .i64 (t : Int))) (some (.int .i64 (m : Int))) none).run Tryd.prog W = .ok (.slice (some ⟨b, o + t, none⟩) S (S + d)) W := fun W => by
        have := cut2_run b o (m + 12) (m + d) t m (by omega) (by omega) (by omega) W (t : Int) (m : Int) rfl rfl
        rw [show m - t = S by omega, show m + d - t = S + d by omega] at this
        exact this
      obtain ⟨xs, hxs⟩ : ∃ xs, xs = (l.take m).drop t := ⟨_, rfl⟩
      have hxl : xs.length = S := by rw [hxs, List.length_drop, List.length_take]; have := Hm.out.1; omega
      have hxr : RB w w.heap.size (some ⟨b, o + t, none⟩) xs := by rw [hxs]; exact (Hr.out.take m).cutFlat t
      rw [← hxs] at hE4
      have HFt := rfits_any (some ⟨b, o + t, none⟩) (S + d) xs wc ((hxr.below Hbc.out).wide Hbc.out.size) (by have := HSl.out; omega) (by omega)
      rw [hxl] at HFt
      have HFi := Lib.hid HFt
      have Hxs : Hid (xs.length = S ∧ RB w w.heap.size (some ⟨b, o + t, none⟩) xs ∧ xs = (l.take m).drop t) := ⟨hxl, hxr, hxs⟩
      clear hE3 HFt hxs hxl hxr ht hSm
      go_wp2_with fail
      refine HFi.out.mono ?_
      rintro e w3 ⟨rfl, hb3⟩
      have H3 : Hid (Below w.heap.size w w3) := Hbc.out.trans (hb3.mono Hbc.out.size)
      clear hb3 HFi
      rcases hun : unF xs with _ | y
      · have he : er = 23 := by rw [hE4.out, hun]; rfl
        subst he
        obtain rfl : R0 = ([], 23) := Herr.out (by decide)
        clear hE4 Hok Herr
        go_wp2_with fail
        exact bodyPost_ret (v := .tuple #[.slice none 0 0, .int .i64 23]) (by simp [results, Tryd.results31, go_sem]) rfl ⟨none, 0, 0, rfl, RowO.nil _ _, H3.out⟩
      · have he : er = 0 := by rw [hE4.out, hun]; rfl
        subst he
        obtain ⟨hy1, hy2⟩ := unF_eq hun
        have hop := Hok.out y t cnt rfl (by rw [show l.length - 12 = m by have := Hm.out.1; omega, ← Hlv.out.1]; exact Ht.out.2) (by rw [show l.length - 12 = m by have := Hm.out.1; omega]; exact Hlv.out.2) (by rw [show l.length - 12 = m by have := Hm.out.1; omega, ← Hlv.out.1, ← Ht.out.2, ← Hxs.out.2.2]; exact hun)
        have hS4 : 4 ≤ S := by rw [Hxs.out.1] at hy2; exact hy2
        have hsly : ∀ W : World, (Instr.sliceAt 25 (.slice (some ⟨b, o + t, none⟩) S (S + d)) (some (.int .i64 4)) none none).run Tryd.prog W = .ok (.slice (some ⟨b, o + t + 4, none⟩) (S - 4) (S + d - 4)) W := fun W => cutB_lt b (o + t) S (S + d) 4 hS4 (by omega) W
        have hyl : y.length = S - 4 := by rw [hy1, List.length_drop, Hxs.out.1]
        have hyr : RB w w.heap.size (some ⟨b, o + t + 4, none⟩) y := by rw [hy1]; exact Hxs.out.2.1.cutFlat 4
        have HIx := rindex_any (some ⟨b, o + t + 4, none⟩) (S + d - 4) t y w3 ((hyr.below H3.out).wide H3.out.size) (by have := HSl.out; omega) (by omega) (fun e => by cases e) (by have := Hm.out; have := Ht.out; omega)
        rw [hyl] at HIx
        have HI := Lib.hid HIx
        obtain ⟨body, hbody⟩ : ∃ body, body = l.take t := ⟨_, rfl⟩
        rw [← hbody] at hop
        have Hbody : Hid (body.length = t ∧ RB w w.heap.size (some ⟨b, o, none⟩) body) := ⟨by rw [hbody, List.length_take]; have := Hm.out; have := Ht.out; omega, by rw [hbody]; exact Hr.out.take t⟩
        have Hyl : Hid (y.length = S - 4) := hyl
        have Hop : Hid (R0 = _) := hop
        have HpS : Hid (∀ ps, partsF y t = some ps → sumN ps = t ∧ (∀ p ∈ ps, 5 ≤ p.2) ∧ ps.length ≤ 4294967296) := fun ps h => by
          have h1 := partsF_sum _ y t ps (Nat.le_refl _) h
          have h2 := partsF_len _ y t ps (Nat.le_refl _) h
          exact ⟨h1.1, h1.2, by have := HSl.out; omega⟩
        clear HIx hyl hyr hop hbody hy1 hy2 hE4 Hok Herr hun hsl1 hsl4 hslx Hxs Hr
        generalize partsF y t = po at *
        rcases po with _ | ps
        · obtain rfl : R0 = ([], 24) := Hop.out
          clear Hop HpS
          go_wp2_with fail
          refine HI.out.mono ?_
          rintro e w4 ⟨A4, m4, c4, rfl, _, hb4⟩
          have H4 : Hid (Below w.heap.size w w4) := H3.out.trans (hb4.mono H3.out.size)
          clear HI hb4
          go_wp2_with fail
          exact bodyPost_ret (v := .tuple #[.slice none 0 0, .int .i64 24]) (by simp [results, Tryd.results31, go_sem]) rfl ⟨none, 0, 0, rfl, RowO.nil _ _, H4.out⟩
        · have Hop2 : Hid (R0 = if (goC (cutsF ps body)).2 ≠ 0 then ([], (goC (cutsF ps body)).2) else if (goC (cutsF ps body)).1.length = cnt ∧ rightF (goC (cutsF ps body)).1 = true then ((goC (cutsF ps body)).1, 0) else ([], 24)) := Hop.out
          obtain ⟨hp1, hp2, hp3⟩ := HpS.out ps rfl
          have hsum := sumC_cuts ps body
          have hql := cutsF_len ps body
          have Hget : Hid (∀ i k n, ps[i]? = some (k, n) → (cutsF ps body)[i]? = some (k, (body.drop (sumN (ps.take i))).take n)) := fun i k n h => cutsF_get ps body i k n h
          obtain ⟨qs, hqs⟩ : ∃ qs, qs = cutsF ps body := ⟨_, rfl⟩
          rw [← hqs] at Hop2 hsum Hget hql
          have hst := goR_start qs
          obtain ⟨RC, hRC⟩ : ∃ RC, RC = goC qs := ⟨_, rfl⟩
          rw [← hRC] at hst Hop2
          have Hst := Lib.hid hst
          have Hsum := Lib.hid hsum
          have Hps : Hid (sumN ps = t ∧ (∀ p ∈ ps, 5 ≤ p.2) ∧ qs.length = ps.length) := ⟨hp1, hp2, hql⟩
          have Hlen : Hid (∀ i : Nat, i < ps.length → ∃ k n, ps[i]? = some (k, n)) := fun i hi => ⟨_, _, List.getElem?_eq_getElem hi⟩
          clear hqs hsum hst hRC Hop HpS hql hp1 hp2
          go_wp2_with fail
          refine HI.out.mono ?_
          rintro e w4 ⟨A4, m4, c4, rfl, hp4, hb4⟩
          have hrow := hp4 ps rfl
          obtain ⟨A4', c4', e4, hc4⟩ := hrow.shape
          cases e4
          have H4 : Hid (Below w.heap.size w w4 ∧ PtRow w4 w3.heap.size (.slice A4 ps.length c4) ps) := ⟨H3.out.trans (hb4.mono H3.out.size), hrow⟩
          obtain ⟨np, hnp⟩ : ∃ np, np = ps.length := ⟨_, rfl⟩
          rw [← hnp] at H4 Hlen Hps hc4 hp3 ⊢
          have hnp' : (np : Int) ≤ 4294967296 := by omega
          have Hnp := Lib.hid hnp
          clear HI hb4 hp4 hrow hnp hp3
          go_wp2_with fail
          go_loopw [11, 12] (fun lv iv wr => ∃ (i : Nat) (out : List Fc), iv = .int .i64 (i : Int) ∧ i ≤ np ∧ Hid (OSt w4 wr lv qs i body.length RC out)) (fun _ iv _ => np - (intOf iv).toNat)
          case atStart => exact ⟨0, [], rfl, Nat.zero_le _, ⟨RowO.nil _ _, Hst.out, by simpa using Hsum.out, Below.refl _ _⟩⟩
          case round =>
            have hrel0 := hrel
            clear hrel
            obtain ⟨i, out, rfl, hi, hst⟩ := hrel0
            obtain ⟨Al, cl, rfl, hcl, _⟩ := hst.out.row.shape
            by_cases hlt : i < np
            · obtain ⟨k, n, hpi⟩ := Hlen.out i hlt
              have hqi := Hget.out i k n hpi
              have hlt' : (i : Int) < (np : Int) := by omega
              obtain ⟨g, cg, eg, hglt, x0, x1, x2⟩ := (H4.out.2.below hst.out.bel).at_ hpi
              injection eg with ea en ec
              subst ea
              subst ec
              clear en
              have hle := sumN_le hpi
              rw [Hps.out.1] at hle
              have hn5 := Hps.out.2.1 _ (List.mem_of_getElem? hpi)
              dsimp only at hn5
              generalize sumN (ps.take i) = at_ at *
              have hwat : IntKind.i64.wrap ((at_ : Int) + (n : Int)) = (at_ : Int) + (n : Int) := by rw [IntKind.wrap_i64]; have := Hm.out; have := Ht.out; omega
              have Hmt : Hid (at_ + n ≤ m ∧ 5 ≤ n ∧ 12 ≤ d) := ⟨by have := Ht.out; omega, hn5, hd⟩
              have hslp : ∀ W : World, (Instr.sliceAt 25 (.slice (some ⟨b, o, none⟩) (m + 12) (m + d)) (some (.int .i64 (at_ : Int))) (some (.int .i64 ((at_ : Int) + (n : Int)))) none).run Tryd.prog W = .ok (.slice (some ⟨b, o + at_, none⟩) n (m + d - at_)) W := fun W => by
                have := cut2_run b o (m + 12) (m + d) at_ (at_ + n) (by omega) (by have := Ht.out; omega) (by have := Ht.out; omega) W (at_ : Int) ((at_ : Int) + (n : Int)) rfl (by omega)
                rw [Nat.add_sub_cancel_left] at this
                exact this
              obtain ⟨qd, hqd⟩ : ∃ qd, qd = (body.drop at_).take n := ⟨_, rfl⟩
              rw [← hqd] at hqi
              have hqdl : qd.length = n := by rw [hqd, List.length_take, List.length_drop, Hbody.out.1]; omega
              have hqdr : RB w w.heap.size (some ⟨b, o + at_, none⟩) qd := by rw [hqd]; exact (Hbody.out.2.cutFlat at_).take n
              have hdrop : qs.drop i = (k, qd) :: qs.drop (i + 1) := by
                have h1 := List.getElem?_eq_some_iff.1 hqi
                rw [List.drop_eq_getElem_cons h1.1, h1.2]
              have hres := hst.out.res
              have hlen := hst.out.len
              rw [hdrop, goR_cons] at hres
              rw [hdrop] at hlen
              have hlen2 : out.length + qd.length + sumC (qs.drop (i + 1)) ≤ body.length := by
                unfold sumC at hlen ⊢
                rw [List.map_cons, List.sum_cons] at hlen
                dsimp only at hlen
                omega
              have hol := oneF_len k qd
              have Hres := Lib.hid hres
              have Hlen2 : Hid (out.length + qd.length + sumC (qs.drop (i + 1)) ≤ body.length ∧ (oneF k qd).1.length ≤ qd.length ∧ body.length ≤ 1099511627776) := ⟨hlen2, hol, by have := Hbody.out.1; have := Hm.out; have := Ht.out; omega⟩
              have HX2 : Hid (∀ W, Below w4.heap.size w4 W → W.cell? ⟨g, i * 3 + 2, none⟩ = some (.string k)) := fun W hW => by
                obtain ⟨g', cg', eg', _, _, _, y2⟩ := (H4.out.2.below hW).at_ hpi
                injection eg' with ea' _ _
                cases ea'
                exact y2
              have Hst2 : Hid (RowO wr w4.heap.size (.slice Al out.length cl) out ∧ Below w4.heap.size w4 wr) := ⟨hst.out.row, hst.out.bel⟩
              clear hst hres hlen hlen2 hol hdrop hqi hqd hn5 hle x2 Hget
              go_upto_region 21 with fail
              go_quiet (fail)
              have hb5 : Below wr.heap.size wr (wr.drewN nq) := below_drewN (Below.refl _ _) nq
              generalize wr.drewN nq = w5 at hb5 ⊢
              have H5 : Hid (Below w.heap.size w w5 ∧ Below w4.heap.size w4 w5 ∧ RowO w5 w4.heap.size (.slice Al out.length cl) out) := ⟨H4.out.1.trans ((Hst2.out.2.trans (hb5.mono Hst2.out.2.size)).mono H4.out.1.size), Hst2.out.2.trans (hb5.mono Hst2.out.2.size), RowO.below Hst2.out.1 hb5⟩
              have HFt := rfits_any (some ⟨b, o + at_, none⟩) (m + d - at_) qd w5 ((hqdr.below H5.out.1).wide H5.out.1.size) (by have := Hmt.out; have := Hm.out; omega) (by have := Hmt.out; omega)
              rw [hqdl] at HFt
              have HFi := Lib.hid HFt
              clear HFt hb5 x0 x1 hslp hwat
              have Hqd : Hid (qd.length = n ∧ RB w w.heap.size (some ⟨b, o + at_, none⟩) qd) := ⟨hqdl, hqdr⟩
              clear hqdl hqdr
              go_wp2_with fail
              refine HFi.out.mono ?_
              rintro e w6 ⟨rfl, hb6⟩
              have H6 : Hid (Below w.heap.size w w6 ∧ Below w4.heap.size w4 w6 ∧ RowO w6 w4.heap.size (.slice Al out.length cl) out) := ⟨H5.out.1.trans (hb6.mono H5.out.1.size), H5.out.2.1.trans (hb6.mono H5.out.2.1.size), RowO.below H5.out.2.2 hb6⟩
              clear hb6 HFi H5
              rcases hun : unF qd with _ | y2
              · have ho := oneF_none (k := k) hun
                have hRC : RC = ([], 23) := by have := Hres.out; rw [ho, if_pos (by decide)] at this; exact this.symm
                obtain rfl : R0 = ([], 23) := by rw [Hop2.out, hRC, if_pos (by decide)]
                clear Hop2 Hres Hlen2 ho hRC
                go_wp2_with fail
                exact bodyPost_ret (v := .tuple #[.slice none 0 0, .int .i64 23]) (by simp [results, Tryd.results31, go_sem]) rfl ⟨none, 0, 0, rfl, RowO.nil _ _, H6.out.1⟩
              obtain ⟨hy1, hy2⟩ := unF_eq hun
              have hslq : ∀ W : World, (Instr.sliceAt 25 (.slice (some ⟨b, o + at_, none⟩) n (m + d - at_)) (some (.int .i64 4)) none none).run Tryd.prog W = .ok (.slice (some ⟨b, o + at_ + 4, none⟩) (n - 4) (m + d - at_ - 4)) W := fun W => cutB_lt b (o + at_) n (m + d - at_) 4 (by have := Hmt.out; omega) (by have := Hmt.out; omega) W
              have hyl : y2.length = n - 4 := by rw [hy1, List.length_drop, Hqd.out.1]
              have hyr : RB w w.heap.size (some ⟨b, o + at_ + 4, none⟩) y2 := by rw [hy1]; exact Hqd.out.2.cutFlat 4
              have HFx := rfacts_any (some ⟨b, o + at_ + 4, none⟩) (m + d - at_ - 4) y2 w6 ((hyr.below H6.out.1).wide H6.out.1.size) (by have := Hmt.out; have := Hm.out; omega) (by have := Hmt.out; omega) (fun e => by cases e)
              rw [hyl] at HFx
              have HF := Lib.hid HFx
              clear HFx hyl hyr hy1 hy2
              cases hok : okF y2 with
              | false =>
                have ho := oneF_bad (k := k) hun hok
                have hRC : RC = ([], 24) := by have := Hres.out; rw [ho, if_pos (by decide)] at this; exact this.symm
                obtain rfl : R0 = ([], 24) := by rw [Hop2.out, hRC, if_pos (by decide)]
                rw [hok] at HF
                clear Hop2 Hres Hlen2 ho hRC hok hun
                go_wp2_with fail
                refine HF.out.mono ?_
                rintro e w7 ⟨v7, rfl, ho7, hb7⟩
                have H7 : Hid (Below w.heap.size w w7) := H6.out.1.trans (hb7.mono H6.out.1.size)
                clear HF ho7 hb7
                go_upto_region 25 with fail
                go_quiet (fail)
                go_wp2_with fail
                exact bodyPost_ret (v := .tuple #[.slice none 0 0, .int .i64 24]) (by simp [results, Tryd.results31, go_sem]) rfl ⟨none, 0, 0, rfl, RowO.nil _ _, below_drewN H7.out nq⟩
              | true =>
                obtain ⟨f, fl, hls, hfc⟩ := okF_ls hok
                have ho := oneF_key (k := k) hun hfc
                rw [hok, hls] at HF
                clear hok hun hls hfc
                go_wp2_with fail
                refine HF.out.mono ?_
                rintro e w7 ⟨v7, rfl, ho7, hb7⟩
                obtain ⟨A7, c7, rfl, hc7, _, hr7, _⟩ := RowO.rd ho7
                obtain ⟨bl, ol, V7, e7, hbl, y0, _, _, _, _⟩ := hr7.at_ (k := 0) (f := f) rfl
                subst e7
                rw [Nat.zero_mul, Nat.add_zero] at y0
                have H7 : Hid (Below w.heap.size w w7 ∧ Below w4.heap.size w4 w7 ∧ RowO w7 w4.heap.size (.slice Al out.length cl) out ∧ RowO w7 w4.heap.size (.slice (some ⟨bl, ol, none⟩) (f :: fl).length c7) (f :: fl)) := ⟨H6.out.1.trans (hb7.mono H6.out.1.size), H6.out.2.1.trans (hb7.mono H6.out.2.1.size), RowO.below H6.out.2.2 hb7, RowO.wide ho7 H6.out.2.1.size⟩
                have z2 := HX2.out w7 H7.out.2.1
                have hfl0 : (0 : Int) < ((f :: fl).length : Int) := by simp
                have Hfl : Hid ((f :: fl).length ≤ qd.length ∨ f.1 ≠ k) := by
                  by_cases hk : f.1 = k
                  · left; have := Hlen2.out.2.1; rw [ho, if_pos hk] at this; exact this
                  · exact .inr hk
                obtain ⟨nf, hnf⟩ : ∃ nf, nf = (f :: fl).length := ⟨_, rfl⟩
                rw [← hnf] at H7 hfl0 ⊢
                have Hnf := Lib.hid hnf
                have hkb := textB_eq f.1 k
                clear HF ho7 hb7 hr7 hbl hc7 hnf H6
                by_cases hk : f.1 = k
                · rw [decide_eq_true hk] at hkb
                  rw [if_pos hk] at ho
                  have hres2 : goR (out ++ (f :: fl)) (qs.drop (i + 1)) = RC := by have := Hres.out; rw [ho, if_neg (by simp)] at this; exact this
                  have Hres2 := Lib.hid hres2
                  have Hl2 : Hid (out.length + (f :: fl).length + sumC (qs.drop (i + 1)) ≤ body.length ∧ body.length ≤ 1099511627776) := by
                    have h1 := Hlen2.out
                    rw [ho] at h1
                    dsimp only at h1
                    exact ⟨by omega, h1.2.2⟩
                  have Hk := Lib.hid hk
                  clear Hres hres2 Hlen2 ho hk Hfl
                  go_upto_region 25 with fail
                  go_quiet (fail)
                  have H8 : Hid (Below w4.heap.size w4 (w7.drewN nq) ∧ RowO (w7.drewN nq) w4.heap.size (.slice Al out.length cl) out ∧ RowO (w7.drewN nq) w4.heap.size (.slice (some ⟨bl, ol, none⟩) nf c7) (f :: fl)) := ⟨below_drewN H7.out.2.1 nq, RowO.drewN H7.out.2.2.1 nq, RowO.drewN H7.out.2.2.2 nq⟩
                  generalize w7.drewN nq = w8 at H8 ⊢
                  clear H7 y0 z2
                  go_wp2_with (at_builtin; go_must (refine app_rowO rfl (.tmp 113) (.tmp 114) rfl rfl H8.out.2.1 rfl H8.out.2.2 (by have := Hl2.out; omega) H8.out.1.size ?_); intro v9 w9 r9 b9; have H9 : Hid (RowO w9 w4.heap.size v9 (out ++ (f :: fl)) ∧ Below w4.heap.size w4 w9) := ⟨r9, H8.out.1.trans b9⟩; clear r9 b9)
                  go_roundw
                  case rel => exact ⟨i + 1, out ++ (f :: fl), by go_num, by omega, ⟨H9.out.1, Hres2.out, by have := Hl2.out; rw [List.length_append]; omega, H9.out.2⟩⟩
                  case measure => simp [intOf]; omega
                · rw [decide_eq_false hk] at hkb
                  rw [if_neg hk] at ho
                  have hRC : RC = ([], 24) := by have := Hres.out; rw [ho, if_pos (by decide)] at this; exact this.symm
                  obtain rfl : R0 = ([], 24) := by rw [Hop2.out, hRC, if_pos (by decide)]
                  clear Hop2 Hres Hlen2 ho hRC hk Hfl
                  go_upto_region 25 with fail
                  go_quiet (fail)
                  go_wp2_with fail
                  exact bodyPost_ret (v := .tuple #[.slice none 0 0, .int .i64 24]) (by simp [results, Tryd.results31, go_sem]) rfl ⟨none, 0, 0, rfl, RowO.nil _ _, below_drewN H7.out.1 nq⟩
            · obtain rfl : i = np := by omega
              have hRC : RC = (out, 0) := by
                have := hst.out.res
                rw [List.drop_eq_nil_of_le (by have := Hps.out.2.2; omega), goR_nil] at this
                exact this.symm
              have HR2 : Hid (R0 = if out.length = cnt ∧ rightF out = true then (out, 0) else ([], 24)) := by show _ = _; rw [Hop2.out, hRC]; simp
              have hol : out.length ≤ 1099511627776 := by have := hst.out.len; have := Hbody.out.1; have := Hm.out; have := Ht.out; omega
              have hwl : IntKind.u64.wrap (out.length : Int) = (out.length : Int) := by rw [IntKind.wrap_u64]; omega
              obtain ⟨A8, c8, e8, _, _, hrf, _⟩ := RowO.rd hst.out.row
              cases e8
              have HRt := Lib.hid (rright_any Al cl out wr hol hrf)
              have H5 : Hid (RowO wr w4.heap.size (.slice Al out.length cl) out ∧ Below w4.heap.size w4 wr ∧ Below w.heap.size w wr ∧ w.heap.size ≤ w4.heap.size) := ⟨hst.out.row, hst.out.bel, H4.out.1.trans (hst.out.bel.mono H4.out.1.size), H4.out.1.size⟩
              obtain ⟨no, hno⟩ : ∃ no, no = out.length := ⟨_, rfl⟩
              rw [← hno] at hwl HRt HR2 H5 hcl ⊢
              clear hst Hop2 hol hrf hRC hno H4 Hget Hlen hlt Hst Hsum
              cases hri : rightF out with
              | false =>
                obtain rfl : R0 = ([], 24) := by rw [HR2.out, if_neg (by simp [hri])]
                rw [hri] at HRt
                clear HR2 hri
                go_wp2_with fail
                refine HRt.out.mono ?_
                rintro e w5 ⟨rfl, hg5⟩
                have H6 : Hid (Below w.heap.size w w5) := H5.out.2.2.1.trans (hg5.below.mono H5.out.2.2.1.size)
                clear hg5 H5 HRt
                go_wp2_with fail
                exact bodyPost_ret (v := .tuple #[.slice none 0 0, .int .i64 24]) (by simp [results, Tryd.results31, go_sem]) rfl ⟨none, 0, 0, rfl, RowO.nil _ _, H6.out⟩
              | true =>
                rw [hri] at HRt
                by_cases hcn : no = cnt
                · subst hcn
                  obtain rfl : R0 = (out, 0) := by rw [HR2.out, if_pos ⟨rfl, hri⟩]
                  have hnn : ((no : Int) != (no : Int)) = false := by simp
                  clear HR2 hri
                  go_wp2_with fail
                  refine HRt.out.mono ?_
                  rintro e w5 ⟨rfl, hg5⟩
                  have H6 : Hid (RowO w5 w.heap.size (.slice Al no cl) out ∧ Below w.heap.size w w5) := ⟨RowO.wide (RowO.below H5.out.1 hg5.below) H5.out.2.2.2, H5.out.2.2.1.trans (hg5.below.mono H5.out.2.2.1.size)⟩
                  clear hg5 H5 HRt
                  go_wp2_with fail
                  exact bodyPost_ret (v := .tuple #[.slice Al no cl, .int .i64 0]) (by simp [results, Tryd.results31, go_sem]) rfl ⟨Al, no, cl, rfl, H6.out.1, H6.out.2⟩
                · obtain rfl : R0 = ([], 24) := by rw [HR2.out, if_neg (fun h => hcn h.1)]
                  have hcn' : ¬ (no : Int) = (cnt : Int) := by omega
                  have hcn2 : ((no : Int) != (cnt : Int)) = true := by rw [bne_iff_ne]; exact hcn'
                  clear HR2 hri hcn
                  go_wp2_with fail
                  refine HRt.out.mono ?_
                  rintro e w5 ⟨rfl, hg5⟩
                  have H6 : Hid (Below w.heap.size w w5) := H5.out.2.2.1.trans (hg5.below.mono H5.out.2.2.1.size)
                  clear hg5 H5 HRt
                  go_wp2_with fail
                  exact bodyPost_ret (v := .tuple #[.slice none 0 0, .int .i64 24]) (by simp [results, Tryd.results31, go_sem]) rfl ⟨none, 0, 0, rfl, RowO.nil _ _, H6.out⟩
  · have he : er = 23 := by rw [hE2.out, if_pos hpq]
    subst he
    obtain rfl : R0 = ([], 23) := Herr.out (by decide)
    have hpq' : ¬ (q : Int) = (p : Int) := by omega
    have hpq2 : ((q : Int) != (p : Int)) = true := by rw [bne_iff_ne]; exact hpq'
    clear HL0 HL4 Hr Hm HSl Hlv Hcnt Hok Herr hE2 hpq
    go_region_law (first
      | (go_simp; go_at_call 66; refine (HS8.out _ (by first | exact Hb0.out | exact Hb0.out.drew)).mono ?_; rintro e w2 ⟨rfl, rfl⟩)
      | (go_simp; go_at_call 70; refine (HF8.out _ (by first | exact Hb0.out | exact Hb0.out.drew)).mono ?_; rintro e w3 ⟨rfl, n3, rfl⟩; have H3 : Hid (Below w.heap.size w _) := (by first | exact below_drewN Hb0.out n3 | exact below_drewN Hb0.out.drew n3)))
    all_goals
      go_wp2_with fail
      exact bodyPost_ret (v := .tuple #[.slice none 0 0, .int .i64 23]) (by simp [results, Tryd.results31, go_sem]) rfl ⟨none, 0, 0, rfl, RowO.nil _ _, below_drewN (Below.refl _ _) _⟩
end
end Go.Proofs.YtghcfmkmndldoaaDoor

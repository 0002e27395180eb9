/-
  looks: the walk.
-/
import Derived.Test.YtghcfmkmndldoaaDoorKFa54
import Derived.Shelf.SlSortCmp.QuietGrown
namespace Go.Proofs.YtghcfmkmndldoaaDoor
open Go.RowKit Go.Sort Go.Lib

/-- where the loop of looks stands -/
structure LkSt (w wr : World) (lo hi : ByteArray) (sv : Value) (fs : List Fc) (i : Nat) : Prop where
  row : RowF wr w.heap.size sv (rangeF lo hi (fs.take i)) (Vb w w.heap.size)
  bel : Below w.heap.size w wr
/-- the least number so far; 0 where there is none -/
def lowS (fs : List Fc) (i : Nat) : Nat := if i = 0 then 0 else lowF (fs.take i)
theorem lowF_first {fs : List Fc} {f : Fc} (h : fs[0]? = some f) (hs : f.2.1 < two64) : lowF (fs.take 1) = f.2.1 := by
  rw [take_snoc (i := 0) h, lowF_snoc]
  rw [two64_eq] at hs
  simp [lowF]
  omega
/-- the stretch begins with that key -/
def HeadIs (sm : List Fc) (k : ByteArray) : Prop := ∃ f, sm[0]? = some f ∧ f.1 = k
/-- what Bounds tells, read -/
theorem bounds_form (fs : List Fc) : ∃ (k1 k2 : ByteArray) (q : Bool), boundsV fs = .tuple #[.string k1, .string k2, .int .u64 (lowS fs fs.length : Int), .int .u64 (higF fs : Int), .bool q] ∧
    ((fs.length = 0 ∧ q = false ∧ k1 = ⟨#[]⟩ ∧ k2 = ⟨#[]⟩) ∨ (0 < fs.length ∧ q = true ∧ (∃ f, fs[0]? = some f ∧ f.1 = k1) ∧ ∃ f, fs[fs.length - 1]? = some f ∧ f.1 = k2)) := by
  rcases fs with _ | ⟨f, l⟩
  · exact ⟨⟨#[]⟩, ⟨#[]⟩, false, rfl, .inl ⟨rfl, rfl, rfl, rfl⟩⟩
  · refine ⟨f.1, ((f :: l).getLast (by simp)).1, true, ?_, .inr ⟨by simp, rfl, ⟨f, rfl, rfl⟩, ⟨(f :: l).getLast (by simp), ?_, rfl⟩⟩⟩
    · have : lowS (f :: l) (f :: l).length = lowF (f :: l) := by unfold lowS; rw [if_neg (by simp), List.take_of_length_le (Nat.le_refl _)]
      rw [this]
      rfl
    · rw [List.getLast_eq_getElem, List.getElem?_eq_getElem]
section
set_option maxRecDepth 100000
set_option maxHeartbeats 16000000
theorem looks_any (g : Nat) (A B : Option Addr) (c cl : Nat) (fs : List Fc) (lo hi : ByteArray) (w : World) (ht : TabL w g A c fs) (hr : RF w w.heap.size B fs) :
    Calls Tryd.prog 32 #[.pointer (some ⟨g, 0, none⟩), .slice B fs.length cl, .string lo, .string hi] w fun e w' => e = .returned (.bool true) ∧ Below w.heap.size w w' := by
  have Ht := Lib.hid ht
  have Hr := Lib.hid hr
  have Hnum := Lib.hid hr.numsL
  have HLn := Lib.hid (len_any g A fs.length c w ht.tab ht.len)
  have HAl := Lib.hid ht.all
  have hl' : (fs.length : Int) ≤ 1099511627776 := by have := ht.len; omega
  have HSR : Hid (∀ W A1 c1, Below w.heap.size w W → RF W W.heap.size A1 fs → Calls Tryd.prog 27 #[.slice A1 fs.length c1, .slice B fs.length cl] W fun e w' => e = .returned (.bool true) ∧ Below w.heap.size w w') := fun W A1 c1 hW h1 => by
    have := sameRows_any A1 B c1 cl fs fs W ht.len ht.len h1 ((hr.below hW).wide hW.size)
    rw [decide_eq_true rfl] at this
    refine this.mono ?_
    rintro e w' ⟨rfl, h⟩
    exact ⟨rfl, hW.trans (h.below.mono hW.size)⟩
  have HG : Hid (∀ k W, Below w.heap.size w W → Calls Tryd.prog 33 #[.pointer (some ⟨g, 0, none⟩), .string k] W fun e w' => Below W.heap.size W w' ∧
    ((∃ f V, fs[cntF fs k]? = some f ∧ f.1 = k ∧ e = .returned (.tuple #[fcV f V, .bool true]) ∧ Own w' W.heap.size V f.2.2) ∨
     ((∀ f, fs[cntF fs k]? = some f → f.1 ≠ k) ∧ e = .returned (.tuple #[.agg #[.string ⟨#[]⟩, .int .u64 0, .slice none 0 0], .bool false])))) := fun k W hW => (ht.below hW).get k
  have HBd : Hid (∀ W, Below w.heap.size w W → Calls Tryd.prog 76 #[.pointer (some ⟨g, 0, none⟩)] W fun e w' => e = .returned (boundsV fs) ∧ Below W.heap.size W w') := fun W hW => by
    have h := ht.below hW
    exact tbounds_any g A c fs W h.tab h.len h.rd
  have HStr : Hid (∀ W, Below w.heap.size w W → Calls Tryd.prog 36 #[.pointer (some ⟨g, 0, none⟩), .string lo, .string hi] W fun e w' => ∃ v, e = .returned v ∧ RowO w' W.heap.size v (rangeF lo hi fs) ∧ Below W.heap.size W w') := fun W hW => (ht.below hW).stretch lo hi
  have Hlen : Hid (∀ k : Nat, k < fs.length → ∃ u, fs[k]? = some u) := fun k hk => ⟨_, List.getElem?_eq_getElem hk⟩
  obtain ⟨n, hn⟩ : ∃ n, n = fs.length := ⟨_, rfl⟩
  rw [← hn] at hl' HLn HSR Hlen ⊢
  have Hn := Lib.hid hn
  have hnn : ((n : Int) != (n : Int)) = false := by simp
  clear ht hr hn
  go_enter Tryd.func32, Tryd.ntmps32
  go_wp2_with fail
  refine HLn.out.mono ?_
  rintro e w' ⟨rfl, rfl⟩
  clear HLn
  go_wp2_with fail
  refine HAl.out.mono ?_
  rintro e w1 ⟨v1, rfl, ho1, hb1⟩
  obtain ⟨A1, c1, rfl, _, _, hr1, _⟩ := RowO.rd ho1
  have HS1 := Lib.hid (HSR.out w1 A1 c1 hb1 hr1)
  rw [← Hn.out]
  clear ho1 hb1 hr1 HAl
  go_wp2_with fail
  refine HS1.out.mono ?_
  rintro e w2 ⟨rfl, hb2⟩
  have H2 := Lib.hid hb2
  clear hb2 HS1 HSR hnn
  go_wp2_with fail
  go_loopw [9, 10, 11, 12] (fun sv lv mv iv wr => ∃ (i : Nat) (sv' : Value), sv = sv' ∧ iv = .int .i64 (i : Int) ∧ i ≤ n ∧ lv = .int .u64 (lowS fs i : Int) ∧ mv = .int .u64 (higF (fs.take i) : Int) ∧ Hid (LkSt w wr lo hi sv' fs i)) (fun _ _ _ iv _ => n - (intOf iv).toNat)
  case atStart => exact ⟨0, _, rfl, rfl, Nat.zero_le _, rfl, rfl, ⟨RowF.nil _ _ _, H2.out⟩⟩
  case round =>
    have hrel0 := hrel
    clear hrel H2
    obtain ⟨i, sv, esv, rfl, hi', rfl, rfl, hst⟩ := hrel0
    obtain rfl := esv.symm
    obtain ⟨lv, hlv⟩ : ∃ lv, lv = lowS fs i := ⟨_, rfl⟩
    obtain ⟨mv, hmv⟩ : ∃ mv, mv = higF (fs.take i) := ⟨_, rfl⟩
    rw [← hlv, ← hmv]
    have Hlm : Hid (lv = lowS fs i ∧ mv = higF (fs.take i)) := ⟨hlv, hmv⟩
    clear hlv hmv
    by_cases hlt : i < n
    · obtain ⟨f, hf⟩ := Hlen.out i hlt
      have hlt' : (i : Int) < (n : Int) := by omega
      have hsf := Hnum.out f (List.mem_of_getElem? hf)
      obtain ⟨b, o, V, rfl, hblt, x0, x1, x2, hV, _⟩ := Hr.out.at_ hf
      have HX : Hid (∀ W, Below w.heap.size w W → W.cell? ⟨b, o + i * 3, none⟩ = some (.string f.1) ∧ W.cell? ⟨b, o + i * 3 + 1, none⟩ = some (.int .u64 (f.2.1 : Int)) ∧ W.cell? ⟨b, o + i * 3 + 2, none⟩ = some V) := fun W hW => ⟨(hW.cell (p := ⟨b, o + i * 3, none⟩) hblt).trans x0, (hW.cell (p := ⟨b, o + i * 3 + 1, none⟩) hblt).trans x1, (hW.cell (p := ⟨b, o + i * 3 + 2, none⟩) hblt).trans x2⟩
      have Hrs := Lib.hid (range_snoc lo hi hf)
      have Hf : Hid (fs[i]? = some f ∧ f.2.1 < two64 ∧ Vb w w.heap.size V f.2.2 ∧ V.oneCell' = true) := ⟨hf, hsf, hV, hV.one⟩
      have hone : (rangeF lo hi (fs.take i)).length ≤ i := by
        have h1 := List.length_filter_le (fun f => !lessK lo f && lessK hi f) (fs.take i)
        rw [List.length_take] at h1
        unfold rangeF
        omega
      have Hone := Lib.hid hone
      obtain ⟨A2, cv, rfl, _⟩ := hV
      obtain ⟨y0, y1, y2⟩ := HX.out wr hst.out.bel
      obtain ⟨fk, s, fv⟩ := f
      dsimp only at *
      have hb1 : ∃ b1, Op.bytesLess fk.toList lo.toList = b1 := ⟨_, rfl⟩
      obtain ⟨b1, hb1⟩ := hb1
      have hb2 : ∃ b2, Op.bytesLess fk.toList hi.toList = b2 := ⟨_, rfl⟩
      obtain ⟨b2, hb2⟩ := hb2
      have Hin : Hid (rangeF lo hi (fs.take (i + 1)) = rangeF lo hi (fs.take i) ++ if (!b1 && b2) = true then [(fk, s, fv)] else []) := by
        have := Hrs.out
        rw [show lessK lo (fk, s, fv) = b1 from hb1, show lessK hi (fk, s, fv) = b2 from hb2] at this
        exact this
      clear hf hsf x0 x1 x2 hblt Hrs hone hlt
      go_upto_region 9 with fail
      go_cut [55] (fun v wx => wr = wx ∧ v = .bool (!b1 && b2))
      case first => as_aux_lemma =>
        clear Ht Hr Hnum HG HBd HStr Hlen Hn Hf Hone Hin HX hst
        cases b1
        · cases b2
          all_goals
            go_wp2_with fail
            go_meet
            exact ⟨rfl, rfl⟩
        · go_wp2_with fail
          go_meet
          exact ⟨rfl, rfl⟩
      case rest =>
        obtain ⟨rfl, rfl⟩ := hcut
        clear hb1 hb2
        go_upto_if 55 with fail
        go_cut [9] (fun sv wx => ∃ sv', sv = sv' ∧ Hid (RowF wx w.heap.size sv' (rangeF lo hi (fs.take (i + 1))) (Vb w w.heap.size) ∧ Below w.heap.size w wx))
        case first => as_aux_lemma =>
          generalize (!b1 && b2) = q at *
          clear Ht Hr Hnum HG HBd HStr Hlen HX
          cases q with
          | false =>
            have Hs : Hid (RowF wr w.heap.size sv (rangeF lo hi (fs.take (i + 1))) (Vb w w.heap.size) ∧ Below w.heap.size w wr) := ⟨by rw [Hin.out, if_neg (by simp), List.append_nil]; exact hst.out.row, hst.out.bel⟩
            clear hst Hin
            go_wp2_with fail
            go_meet
            exact ⟨_, rfl, Hs⟩
          | true =>
            have hba : Below wr.heap.size wr (wr.alloc (.cells #[.string fk, .int .u64 (s : Int), .slice A2 fv.length cv] 40)) := (Below.refl _ _).alloc (Nat.le_refl _) _
            have Hs : Hid (RowF (wr.alloc (.cells #[.string fk, .int .u64 (s : Int), .slice A2 fv.length cv] 40)) w.heap.size sv (rangeF lo hi (fs.take i)) (Vb w w.heap.size) ∧ Below w.heap.size w (wr.alloc (.cells #[.string fk, .int .u64 (s : Int), .slice A2 fv.length cv] 40))) := ⟨hst.out.row.below hba, hst.out.bel.trans (hba.mono hst.out.bel.size)⟩
            clear hba
            go_wp2_with (at_builtin; go_must (refine app_row1 (S := Vb w w.heap.size) rfl (.tmp 56) (.tmp 61) rfl (fk, s, fv) rfl Hs.out.1 (RP.one wr (fk, s, fv) (.slice A2 fv.length cv)) Hf.out.2.2.1 Hf.out.2.1 Hf.out.2.2.2 1 rfl (by have := Hone.out; omega) Hs.out.2.size ?_); intro v6 w6 r6 g6 _; have H6 : Hid (RowF w6 w.heap.size v6 (rangeF lo hi (fs.take (i + 1))) (Vb w w.heap.size) ∧ Below w.heap.size w w6) := ⟨by rw [Hin.out, if_pos rfl]; exact r6, Hs.out.2.trans (RowF.grownB Hs.out.1 g6 Hs.out.2.size)⟩; clear r6 g6)
            go_meet
            exact ⟨_, rfl, H6⟩
        case rest =>
          obtain ⟨sv2, esv2, Hs2⟩ := hcut
          obtain rfl := esv2.symm
          clear Hin hst
          generalize wc = wa at *
          obtain ⟨y0, y1, y2⟩ := HX.out wa Hs2.out.2
          have Hlow : Hid (lowS fs (i + 1) = if i = 0 ∨ s < lv then s else lv) := by
            show _ = _
            have h1 : lowS fs (i + 1) = lowF (fs.take (i + 1)) := by unfold lowS; rw [if_neg (by omega)]
            by_cases hi0 : i = 0
            · rw [if_pos (.inl hi0), h1]
              subst hi0
              exact lowF_first Hf.out.1 Hf.out.2.1
            · have h2 := Hlm.out.1
              unfold lowS at h2
              rw [if_neg hi0] at h2
              rw [h1, take_snoc Hf.out.1, lowF_snoc, ← h2]
              by_cases h3 : s < lv
              · rw [if_pos (.inr h3)]; dsimp only; omega
              · rw [if_neg (by rintro (h | h); exact hi0 h; exact h3 h)]; dsimp only; omega
          have Hhig : Hid (higF (fs.take (i + 1)) = if mv < s then s else mv) := by
            show _ = _
            rw [take_snoc Hf.out.1, higF_snoc, ← Hlm.out.2]
            by_cases h3 : mv < s
            · rw [if_pos h3]; dsimp only; omega
            · rw [if_neg h3]; dsimp only; omega
          clear Hlm
          go_upto_region 11 with fail
          go_cut [73] (fun v wx => wa = wx ∧ v = .bool (decide (i = 0 ∨ s < lv)))
          case first => as_aux_lemma =>
            clear Ht Hr Hnum HG HBd HStr Hlen Hn Hf Hone HX Hs2 Hlow Hhig
            by_cases hi0 : i = 0
            · have q1 : ((i : Int) == 0) = true := by simp [hi0]
              have Q : Hid (i = 0 ∨ s < lv) := .inl hi0
              clear hi0
              go_wp2_with fail
              go_meet
              exact ⟨rfl, by rw [decide_eq_true Q.out]⟩
            · have q1 : ((i : Int) == 0) = false := by simp [hi0]
              by_cases h3 : s < lv
              · have q2 : (s : Int) < (lv : Int) := by omega
                have Q : Hid (i = 0 ∨ s < lv) := .inr h3
                clear h3
                go_wp2_with fail
                go_meet
                exact ⟨rfl, by rw [decide_eq_true Q.out]⟩
              · have q2 : ¬ (s : Int) < (lv : Int) := by omega
                have Q : Hid (¬ (i = 0 ∨ s < lv)) := fun h => h.elim hi0 h3
                clear h3
                go_wp2_with fail
                go_meet
                exact ⟨rfl, by rw [decide_eq_false Q.out]⟩
          case rest =>
            obtain ⟨rfl, rfl⟩ := hcut
            go_upto_if 73 with fail
            go_cut [10] (fun v wx => wa = wx ∧ v = .int .u64 (lowS fs (i + 1) : Int))
            case first => as_aux_lemma =>
              clear Ht Hr Hnum HG HBd HStr Hlen Hn Hf Hone HX Hs2 Hhig
              by_cases q : i = 0 ∨ s < lv
              · rw [decide_eq_true q]
                have Hv : Hid (lowS fs (i + 1) = s) := by show _ = _; rw [Hlow.out, if_pos q]
                clear q Hlow
                go_wp2_with fail
                go_meet
                exact ⟨rfl, by rw [Hv.out]⟩
              · rw [decide_eq_false q]
                have Hv : Hid (lowS fs (i + 1) = lv) := by show _ = _; rw [Hlow.out, if_neg q]
                clear q Hlow
                go_wp2_with fail
                go_meet
                exact ⟨rfl, by rw [Hv.out]⟩
            case rest =>
              obtain ⟨rfl, rfl⟩ := hcut
              obtain ⟨lv2, hlv2⟩ : ∃ lv2, lv2 = lowS fs (i + 1) := ⟨_, rfl⟩
              rw [← hlv2]
              have Hlv2 := Lib.hid hlv2
              clear Hlow hlv2
              go_upto_region 13 with fail
              go_cut [85] (fun v wx => wa = wx ∧ v = .bool (decide (mv < s)))
              case first => as_aux_lemma =>
                clear Ht Hr Hnum HG HBd HStr Hlen Hn Hf Hone HX Hs2 Hhig
                by_cases h3 : mv < s
                · have q2 : (s : Int) > (mv : Int) := by omega
                  have Q := Lib.hid h3
                  clear h3
                  go_wp2_with fail
                  go_meet
                  exact ⟨rfl, by rw [decide_eq_true Q.out]⟩
                · have q2 : ¬ (s : Int) > (mv : Int) := by omega
                  have Q := Lib.hid h3
                  clear h3
                  go_wp2_with fail
                  go_meet
                  exact ⟨rfl, by rw [decide_eq_false Q.out]⟩
              case rest =>
                obtain ⟨rfl, rfl⟩ := hcut
                go_upto_if 85 with fail
                go_cut [11] (fun v wx => wa = wx ∧ v = .int .u64 (higF (fs.take (i + 1)) : Int))
                case first => as_aux_lemma =>
                  clear Ht Hr Hnum HG HBd HStr Hlen Hn Hf Hone HX Hs2
                  by_cases q : mv < s
                  · rw [decide_eq_true q]
                    have Hv : Hid (higF (fs.take (i + 1)) = s) := by show _ = _; rw [Hhig.out, if_pos q]
                    clear q Hhig
                    go_wp2_with fail
                    go_meet
                    exact ⟨rfl, by rw [Hv.out]⟩
                  · rw [decide_eq_false q]
                    have Hv : Hid (higF (fs.take (i + 1)) = mv) := by show _ = _; rw [Hhig.out, if_neg q]
                    clear q Hhig
                    go_wp2_with fail
                    go_meet
                    exact ⟨rfl, by rw [Hv.out]⟩
                case rest =>
                  obtain ⟨rfl, rfl⟩ := hcut
                  obtain ⟨mv2, hmv2⟩ : ∃ mv2, mv2 = higF (fs.take (i + 1)) := ⟨_, rfl⟩
                  rw [← hmv2]
                  have Hmv2 := Lib.hid hmv2
                  clear Hhig hmv2
                  go_upto_region 15 with fail
                  go_cut [106] (fun v wx => ∃ fb, v = .bool fb ∧ Hid ((fb = true → i = 0 ∨ ∃ e, fs[i - 1]? = some e ∧ e.1 ≠ fk) ∧ RowF wx w.heap.size sv2 (rangeF lo hi (fs.take (i + 1))) (Vb w w.heap.size) ∧ Below w.heap.size w wx))
                  case first => as_aux_lemma =>
                    by_cases hi0 : i = 0
                    · have q1 : ((i : Int) == 0) = true := by simp [hi0]
                      have Q : Hid ((true = true → i = 0 ∨ ∃ e, fs[i - 1]? = some e ∧ e.1 ≠ fk)) := fun _ => .inl hi0
                      clear hi0 HG HBd HStr HX
                      go_quiet (fail)
                      go_wp2_with fail
                      go_meet
                      exact ⟨true, rfl, (fun _ => Q.out (by first | exact trivial | exact rfl)), Hs2.out.1.below ⟨rfl, rfl, rfl, Nat.le_refl _, fun _ _ => rfl⟩, below_drewN Hs2.out.2 nq⟩
                    · have q1 : ((i : Int) == 0) = false := by simp [hi0]
                      obtain ⟨e, he⟩ := Hlen.out (i - 1) (by omega)
                      obtain ⟨b', o', V', e', hblt', z0, _, _, _, _⟩ := (Hr.out.below Hs2.out.2).at_ he
                      cases e'
                      have hz1 : IntKind.i64.wrap ((i : Int) - 1) = ((i - 1 : Nat) : Int) := by rw [IntKind.wrap_i64]; omega
                      have hz2 : ((i - 1 : Nat) : Int) < (n : Int) := by omega
                      have hkb := textB_eq e.1 fk
                      by_cases hk : e.1 = fk
                      · rw [decide_eq_true hk] at hkb
                        have Q : Hid ((false = true → i = 0 ∨ ∃ e, fs[i - 1]? = some e ∧ e.1 ≠ fk)) := fun h => by cases h
                        generalize i - 1 = ip at *
                        clear he hi0 HG HBd HStr HX hk
                        go_quiet (fail)
                        go_wp2_with fail
                        go_meet
                        exact ⟨false, rfl, Q.out, Hs2.out.1.below ⟨rfl, rfl, rfl, Nat.le_refl _, fun _ _ => rfl⟩, below_drewN Hs2.out.2 nq⟩
                      · rw [decide_eq_false hk] at hkb
                        have Q : Hid ((true = true → i = 0 ∨ ∃ e, fs[i - 1]? = some e ∧ e.1 ≠ fk)) := fun _ => .inr ⟨e, he, hk⟩
                        generalize i - 1 = ip at *
                        clear he hi0 HG HBd HStr HX hk
                        go_quiet (fail)
                        go_wp2_with fail
                        go_meet
                        exact ⟨true, rfl, (fun _ => Q.out (by first | exact trivial | exact rfl)), Hs2.out.1.below ⟨rfl, rfl, rfl, Nat.le_refl _, fun _ _ => rfl⟩, below_drewN Hs2.out.2 nq⟩
                  case rest =>
                    obtain ⟨fb, rfl, Hfb⟩ := hcut
                    generalize wc = wd at *
                    clear Hs2 y0 y1 y2
                    cases fb with
                    | false =>
                      go_wp2_with fail
                      go_roundw
                      case rel => exact ⟨i + 1, _, rfl, (by first | rfl | go_num), by omega, by rw [Hlv2.out], by rw [Hmv2.out], ⟨Hfb.out.2.1, Hfb.out.2.2⟩⟩
                      case measure => simp [intOf]; omega
                    | true =>
                      have hcnt := cnt_first Ht.out.right Hf.out.1 (Hfb.out.1 rfl)
                      dsimp only at hcnt
                      obtain ⟨y0, y1, y2⟩ := HX.out wd Hfb.out.2.2
                      have HGk := Lib.hid (HG.out fk wd Hfb.out.2.2)
                      rw [hcnt] at HGk
                      clear hcnt
                      go_wp2_with fail
                      refine HGk.out.mono ?_
                      rintro e w7 ⟨hb7, ⟨f', V', hf', hk', rfl, ho'⟩ | ⟨hno, _⟩⟩
                      · rw [Hf.out.1] at hf'
                        cases hf'
                        obtain ⟨A7, c7, rfl, _, hr7, hA7⟩ := ho'.rb
                        have hb07 : Below w.heap.size w w7 := Hfb.out.2.2.trans (hb7.mono Hfb.out.2.2.size)
                        have hbA : Below w7.heap.size w7 (w7.alloc (.cells #[.string fk, .int .u64 (s : Int), .slice A7 fv.length c7] 40)) := (Below.refl _ _).alloc (Nat.le_refl _) _
                        obtain ⟨W8, hW8⟩ : ∃ W8, W8 = w7.alloc (.cells #[.string fk, .int .u64 (s : Int), .slice A7 fv.length c7] 40) := ⟨_, rfl⟩
                        have hC8 : Cells W8 w7.heap.size 40 [.string fk, .int .u64 (s : Int), .slice A7 fv.length c7] := by rw [hW8]; exact Cells.new w7 _ _
                        have hb78 : Below w7.heap.size w7 W8 := by rw [hW8]; exact hbA
                        have hb08 : Below w.heap.size w W8 := hb07.trans (hb78.mono hb07.size)
                        have H8 : Hid (Below w.heap.size w W8 ∧ RowF W8 w.heap.size sv2 (rangeF lo hi (fs.take (i + 1))) (Vb w w.heap.size)) := ⟨hb08, (Hfb.out.2.1.below hb7).below hb78⟩
                        have HSm : Hid (∀ X, (X = W8 ∨ X = W8.drew) → Calls Tryd.prog 35 #[.agg #[.string fk, .int .u64 (s : Int), .slice A7 fv.length c7], .agg #[.string fk, .int .u64 (s : Int), .slice A2 fv.length cv]] X fun e w' => e = .returned (.bool true) ∧ Below W8.heap.size W8 w') := fun X hX => by
                          have hbX : Below W8.heap.size W8 X := by
                            rcases hX with rfl | rfl
                            · exact Below.refl _ _
                            · exact (Below.refl _ _).drew
                          have h1 : Vb X X.heap.size (.slice A7 fv.length c7) fv := Vb.wide (Vb.below (w := W8) (B := W8.heap.size) (Vb.wide (Vb.below (Vb.own ho') hb78) hb78.size) hbX) hbX.size
                          have h2 : Vb X X.heap.size (.slice A2 fv.length cv) fv := Vb.wide (Vb.below Hf.out.2.2.1 (hb08.trans (hbX.mono hb08.size))) (Nat.le_trans hb08.size hbX.size)
                          have := same_anyF (fk, s, fv) (fk, s, fv) (.slice A7 fv.length c7) (.slice A2 fv.length cv) X h1 h2
                          rw [decide_eq_true rfl] at this
                          refine this.mono ?_
                          rintro e w' ⟨rfl, hg⟩
                          exact ⟨rfl, hbX.trans (hg.below.mono hbX.size)⟩
                        obtain ⟨u0, u1, u2⟩ := HX.out W8 hb08
                        obtain ⟨t0, t1, t2⟩ := HX.out W8.drew hb08.drew
                        have r0 := hC8.cell (i := 0) rfl
                        have r1 := hC8.cell (i := 1) rfl
                        have r2 := hC8.cell (i := 2) rfl
                        have p0 : W8.drew.cell? ⟨w7.heap.size, 0, none⟩ = some (.string fk) := r0
                        have p1 : W8.drew.cell? ⟨w7.heap.size, 1, none⟩ = some (.int .u64 (s : Int)) := r1
                        have p2 : W8.drew.cell? ⟨w7.heap.size, 2, none⟩ = some (.slice A7 fv.length c7) := r2
                        clear HGk hb7 ho' hr7 hA7 hb07 hbA hC8 hb78 hb08 HG HBd HStr HX y0 y1 y2 Hfb
                        unfold fcV
                        dsimp only
                        go_upto_region 17 with fail
                        rw [← hW8]
                        clear hW8
                        go_region_with (go_at_call 35; refine (HSm.out _ (by first | exact .inl (by with_reducible rfl) | exact .inr (by with_reducible rfl))).mono ?_; rintro e w9 ⟨rfl, hb9⟩; have H9 : Hid (Below w.heap.size w w9 ∧ RowF w9 w.heap.size sv2 (rangeF lo hi (fs.take (i + 1))) (Vb w w.heap.size)) := ⟨H8.out.1.trans (hb9.mono H8.out.1.size), H8.out.2.below hb9⟩; clear hb9)
                        all_goals
                          go_wp2_with fail
                          go_roundw
                          case rel => exact ⟨i + 1, _, rfl, (by first | rfl | go_num), by omega, by rw [Hlv2.out], by rw [Hmv2.out], ⟨H9.out.2, H9.out.1⟩⟩
                          case measure => simp [intOf]; omega
                      · exact absurd rfl (hno _ Hf.out.1)
    · obtain rfl : i = n := by omega
      have htk : fs.take i = fs := List.take_of_length_le (by have := Hn.out; omega)
      have Hs : Hid (RowF wr w.heap.size sv (rangeF lo hi fs) (Vb w w.heap.size) ∧ Below w.heap.size w wr) := by
        have h1 := hst.out.row
        rw [htk] at h1
        exact ⟨h1, hst.out.bel⟩
      obtain ⟨k1, k2, q, hbf, hbc⟩ := bounds_form fs
      have HB1 := HBd.out wr Hs.out.2
      rw [hbf, ← Hn.out, ← Hlm.out.1, show higF fs = mv by rw [Hlm.out.2, htk]] at HB1
      have HB2 := Lib.hid HB1
      rw [← Hn.out] at hbc
      have Hbc := Lib.hid hbc
      have hll : ((lv : Int) != (lv : Int)) = false := by simp
      have hmm : ((mv : Int) != (mv : Int)) = false := by simp
      clear HB1 hbf hbc htk hst Hlm HBd Hlen hlt Hnum
      go_wp2_with fail
      refine HB2.out.mono ?_
      rintro e w5 ⟨rfl, hb5⟩
      have H5 : Hid (RowF w5 w.heap.size sv (rangeF lo hi fs) (Vb w w.heap.size) ∧ Below w.heap.size w w5) := ⟨Hs.out.1.below hb5, Hs.out.2.trans (hb5.mono Hs.out.2.size)⟩
      clear hb5 HB2 Hs
      go_upto_region 20 with fail
      go_cut [184] (fun v wx => w5 = wx ∧ v = .bool false)
      case first => as_aux_lemma =>
        rcases Hbc.out with ⟨hn0, rfl, rfl, rfl⟩ | ⟨hn0, rfl, ⟨fa, hfa, rfl⟩, ⟨fz, hfz, rfl⟩⟩
        · clear Ht HG HStr H5 Hbc Hn
          subst hn0
          go_wp2_with fail
          go_meet
          exact ⟨rfl, rfl⟩
        · have h1 : (i : Int) > 0 := by omega
          obtain ⟨b, o, V, rfl, hblt, x0, _, _, _, _⟩ := (Hr.out.below H5.out.2).at_ hfa
          obtain ⟨b', o', V', e', _, z0, _, _, _, _⟩ := (Hr.out.below H5.out.2).at_ hfz
          cases e'
          rw [Nat.zero_mul, Nat.add_zero] at x0
          have hz1 : IntKind.i64.wrap ((i : Int) - 1) = ((i - 1 : Nat) : Int) := by rw [IntKind.wrap_i64]; omega
          have hz2 : ((i - 1 : Nat) : Int) < (i : Int) := by omega
          generalize i - 1 = ip at *
          have e1 : (fa.1.toList == fa.1.toList) = true := by simp
          have e2 : (fz.1.toList == fz.1.toList) = true := by simp
          generalize fa.1 = ka at *
          generalize fz.1 = kz at *
          clear Ht HG HStr H5 Hbc hfa hfz Hn
          go_wp2_with fail
          go_meet
          exact ⟨rfl, rfl⟩
      case rest =>
        obtain ⟨rfl, rfl⟩ := hcut
        clear hll hmm Hbc
        have HGl := Lib.hid (HG.out lo w5 H5.out.2)
        clear HG
        have Hth := Lib.hid (fun (q : Op.bytesLess lo.toList hi.toList = true) f => range_there (f := f) Ht.out.right q)
        have Hsl : Hid ((rangeF lo hi fs).length ≤ 1099511627776) := by
          show _ ≤ _
          have h1 := List.length_filter_le (fun f => !lessK lo f && lessK hi f) fs
          have h2 := Ht.out.len
          unfold rangeF
          omega
        generalize rangeF lo hi fs = sm at *
        generalize cntF fs lo = pos at *
        go_wp2_with fail
        refine HGl.out.mono ?_
        rintro e w6 ⟨hb6, hres⟩
        have hx : ∃ (kx : ByteArray) (sx : Nat) (Ax : Option Addr) (nx cx : Nat) (isB : Bool), e = .returned (.tuple #[.agg #[.string kx, .int .u64 (sx : Int), .slice Ax nx cx], .bool isB]) ∧ Hid ((isB = true → ∃ f, fs[pos]? = some f ∧ f.1 = lo ∧ kx = f.1 ∧ sx = f.2.1 ∧ Own w6 w5.heap.size (.slice Ax nx cx) f.2.2) ∧ (isB = false → ∀ f, fs[pos]? = some f → f.1 ≠ lo)) := by
          rcases hres with ⟨f, V, h1, h2, rfl, h3⟩ | ⟨h1, rfl⟩
          · obtain ⟨Ax, cx, rfl, _⟩ := h3.rb
            exact ⟨f.1, f.2.1, Ax, f.2.2.length, cx, true, rfl, (fun _ => ⟨f, h1, h2, rfl, rfl, h3⟩), (fun h => by cases h)⟩
          · exact ⟨⟨#[]⟩, 0, none, 0, 0, false, rfl, (fun h => by cases h), fun _ => h1⟩
        obtain ⟨kx, sx, Ax, nx, cx, isB, rfl, Hx⟩ := hx
        obtain ⟨W7, hW7⟩ : ∃ W7, W7 = w6.alloc (.cells #[.string kx, .int .u64 (sx : Int), .slice Ax nx cx] 40) := ⟨_, rfl⟩
        have hb67 : Below w6.heap.size w6 W7 := by rw [hW7]; exact (Below.refl _ _).alloc (Nat.le_refl _) _
        have H7 : Hid (RowF W7 w.heap.size sv sm (Vb w w.heap.size) ∧ Below w.heap.size w W7 ∧ Cells W7 w6.heap.size 40 [.string kx, .int .u64 (sx : Int), .slice Ax nx cx] ∧ Below w6.heap.size w6 W7) := ⟨(H5.out.1.below hb6).below hb67, (H5.out.2.trans (hb6.mono H5.out.2.size)).trans (hb67.mono (by have := H5.out.2.size; have := hb6.size; omega)), by rw [hW7]; exact Cells.new w6 _ _, hb67⟩
        obtain ⟨As, cs, rfl, _⟩ := RowF.shape H7.out.1
        clear hres hb6 hb67 HGl H5
        go_upto_region 23 with fail
        rw [← hW7]
        clear hW7
        go_cut [21] (fun v wx => W7 = wx ∧ ∃ th, v = .bool th ∧ Hid (th = true ↔ HeadIs sm lo))
        case first => as_aux_lemma =>
          obtain ⟨A9, c9, e9, _, _, hrf, _⟩ := RowF.rd H7.out.1 (fun V x q => (Vb.below q H7.out.2.1).wide H7.out.2.1.size)
          cases e9
          clear Ht HStr Hx Hth Hr Hn
          rcases sm with _ | ⟨f1, sl⟩
          · have Q : Hid (¬ HeadIs [] lo) := fun ⟨f, h, _⟩ => by simp at h
            clear H7 hrf Hsl
            go_wp2_with fail
            go_meet
            exact ⟨rfl, false, rfl, ⟨(fun h => by cases h), fun h => absurd h Q.out⟩⟩
          · obtain ⟨bs, os, Vs, rfl, _, y0, _, _, _, _⟩ := hrf.at_ (k := 0) (f := f1) rfl
            rw [Nat.zero_mul, Nat.add_zero] at y0
            have hkb := textB_eq f1.1 lo
            by_cases hk : f1.1 = lo
            · rw [decide_eq_true hk] at hkb
              have Q : Hid (HeadIs (f1 :: sl) lo) := ⟨f1, rfl, hk⟩
              clear H7 hrf Hsl hk
              go_wp2_with fail
              go_meet
              exact ⟨rfl, true, rfl, ⟨fun _ => Q.out, fun _ => rfl⟩⟩
            · rw [decide_eq_false hk] at hkb
              have Q : Hid (¬ HeadIs (f1 :: sl) lo) := fun ⟨f, h, h2⟩ => by cases h; exact absurd h2 hk
              clear H7 hrf Hsl hk
              go_wp2_with fail
              go_meet
              exact ⟨rfl, false, rfl, ⟨(fun h => by cases h), fun h => absurd h Q.out⟩⟩
        case rest =>
          obtain ⟨rfl, th, rfl, Hth2⟩ := hcut
          go_upto_region 24 with fail
          go_cut [220] (fun v wx => v = .bool false ∧ Hid (RowF wx w.heap.size (.slice As sm.length cs) sm (Vb w w.heap.size) ∧ Below w.heap.size w wx))
          case first => as_aux_lemma =>
            cases hlh : Op.bytesLess lo.toList hi.toList with
            | false =>
              have Hd : Hid (∀ n, RowF (W7.drewN n) w.heap.size (.slice As sm.length cs) sm (Vb w w.heap.size) ∧ Below w.heap.size w (W7.drewN n)) := fun n => ⟨H7.out.1.below ⟨rfl, rfl, rfl, Nat.le_refl _, fun _ _ => rfl⟩, below_drewN H7.out.2.1 n⟩
              clear Ht HStr Hx Hth Hth2 H7 Hsl
              go_quiet (fail)
              go_wp2_with fail
              go_meet
              exact ⟨rfl, Hd.out nq⟩
            | true =>
              have hR := Hth.out hlh
              cases isB with
              | false =>
                obtain rfl : th = false := by
                  cases th with
                  | false => rfl
                  | true =>
                    obtain ⟨f, h1, h2⟩ := Hth2.out.1 rfl
                    obtain ⟨h3, h4⟩ := (hR f).2 ⟨h1, h2⟩
                    exact absurd h4 (Hx.out.2 rfl f h3)
                have Hd : Hid (∀ n, RowF (W7.drewN n) w.heap.size (.slice As sm.length cs) sm (Vb w w.heap.size) ∧ Below w.heap.size w (W7.drewN n)) := fun n => ⟨H7.out.1.below ⟨rfl, rfl, rfl, Nat.le_refl _, fun _ _ => rfl⟩, below_drewN H7.out.2.1 n⟩
                clear Ht HStr Hx Hth Hth2 H7 Hsl hR
                go_quiet (fail)
                go_wp2_with fail
                go_meet
                exact ⟨rfl, Hd.out nq⟩
              | true =>
                obtain ⟨f, h1, h2, rfl, rfl, hox⟩ := Hx.out.1 rfl
                obtain ⟨h3, _⟩ := (hR f).1 ⟨h1, h2⟩
                obtain rfl : th = true := Hth2.out.2 ⟨f, h3, h2⟩
                obtain ⟨A9, c9, e9, _, _, hrf, _⟩ := RowF.rd H7.out.1 (fun V x q => (Vb.below q H7.out.2.1).wide H7.out.2.1.size)
                cases e9
                obtain ⟨bs, os, Vs, rfl, hbs, y0, y1, y2, hVs, _⟩ := hrf.at_ h3
                rw [Nat.zero_mul, Nat.add_zero] at y0 y1 y2
                have hVs2 := hVs
                obtain ⟨A3, c3, rfl, _⟩ := hVs
                have hsm0 : (0 : Int) < (sm.length : Int) := by have := (List.getElem?_eq_some_iff.1 h3).1; omega
                have hsm1 : 0 < sm.length := by have := (List.getElem?_eq_some_iff.1 h3).1; omega
                have hsm2 : ¬ sm = [] := fun q => by rw [q] at hsm1; cases hsm1
                obtain ⟨Ax', cx', ex, _⟩ := hox.rb
                injection ex with ex1 ex2 ex3
                subst ex1
                subst ex2
                subst ex3
                have HSg : Hid (∀ n os, Calls Tryd.prog 35 #[.agg #[.string f.1, .int .u64 (f.2.1 : Int), .slice Ax f.2.2.length cx], .agg #[.string f.1, .int .u64 (f.2.1 : Int), .slice A3 f.2.2.length c3]] (grow (W7.drewN n) os) fun e w' => e = .returned (.bool true) ∧ ∃ q os', w' = grow ((grow (W7.drewN n) os).drewN q) os') := fun n os => by
                  have hbX : Below W7.heap.size W7 (grow (W7.drewN n) os) := Gr.below ⟨n, os, rfl⟩
                  have h1 : Vb (grow (W7.drewN n) os) (grow (W7.drewN n) os).heap.size (.slice Ax f.2.2.length cx) f.2.2 := Vb.wide (Vb.below (w := W7) (B := W7.heap.size) (Vb.wide (Vb.below (Vb.own hox) H7.out.2.2.2) H7.out.2.2.2.size) hbX) hbX.size
                  have h2 : Vb (grow (W7.drewN n) os) (grow (W7.drewN n) os).heap.size (.slice A3 f.2.2.length c3) f.2.2 := Vb.wide (Vb.below (w := W7) (B := W7.heap.size) hVs2 hbX) hbX.size
                  have := same_anyF f f (.slice Ax f.2.2.length cx) (.slice A3 f.2.2.length c3) (grow (W7.drewN n) os) h1 h2
                  rw [decide_eq_true rfl] at this
                  exact this
                have hb6l : w6.heap.size < W7.heap.size := H7.out.2.2.1.lt
                have r0 := H7.out.2.2.1.cell (i := 0) rfl
                have r1 := H7.out.2.2.1.cell (i := 1) rfl
                have r2 := H7.out.2.2.1.cell (i := 2) rfl
                have g0 := cell_grown (w := W7) (a := ⟨w6.heap.size, 0, none⟩) hb6l r0
                have g1 := cell_grown (w := W7) (a := ⟨w6.heap.size, 1, none⟩) hb6l r1
                have g2 := cell_grown (w := W7) (a := ⟨w6.heap.size, 2, none⟩) hb6l r2
                have g3 := cell_grown (w := W7) (a := ⟨bs, os, none⟩) hbs y0
                have g4 := cell_grown (w := W7) (a := ⟨bs, os + 1, none⟩) hbs y1
                have g5 := cell_grown (w := W7) (a := ⟨bs, os + 2, none⟩) hbs y2
                have H8 : Hid (∀ n os9, RowF (grow (W7.drewN n) os9) w.heap.size (.slice (some ⟨bs, os, none⟩) sm.length cs) sm (Vb w w.heap.size) ∧ Below w.heap.size w (grow (W7.drewN n) os9)) := fun n os9 => ⟨H7.out.1.below (Gr.below ⟨n, os9, rfl⟩), H7.out.2.1.trans ((Gr.below (w := W7) ⟨n, os9, rfl⟩).mono H7.out.2.1.size)⟩
                have mixed : Tryd.prog.follows Departure.mixedOrders = true := by kernel_rfl
                clear hVs2
                generalize f.1 = fk at *
                generalize f.2.1 = fsq at *
                generalize f.2.2 = fv at *
                clear Ht HStr Hx Hth Hth2 H7 Hsl hR hox hrf h1 h2 h3
                clear r0 r1 r2 y0 y1 y2
                rw [show fk = lo from by assumption] at HSg
                refine wp_region_quiet_grown mixed (by kernel_rfl) ?_
                repeat (go_big_quiet_step (first | (go_at_call 35; refine Calls.grown_of (HSg.out _ _))))
                refine wpQuiet_nil ?_
                intro _ hw'
                obtain ⟨⟨nq, osq⟩, hw''⟩ := hw'
                subst hw''
                go_wp2_with fail
                go_meet
                exact ⟨rfl, H8.out nq osq⟩
          case rest =>
            obtain ⟨rfl, H8⟩ := hcut
            generalize wc = w8 at *
            have HSt := Lib.hid (HStr.out w8 H8.out.2)
            clear H7 Hx Hth Hth2 HStr
            go_wp2_with fail
            refine HSt.out.mono ?_
            rintro e w9 ⟨v9, rfl, ho9, hb9⟩
            obtain ⟨A9, c9, rfl, _, _, hr9, _⟩ := RowO.rd ho9
            have hb09 : Below w.heap.size w w9 := H8.out.2.trans (hb9.mono H8.out.2.size)
            obtain ⟨A8, c8, e8, _, _, hr8, _⟩ := RowF.rd (H8.out.1.below hb9) (fun V x q => (Vb.below q hb09).wide hb09.size)
            cases e8
            have HS := Lib.hid (sameRows_any A9 As c9 cs sm sm w9 Hsl.out Hsl.out hr9 hr8)
            rw [decide_eq_true rfl] at HS
            have Hb := Lib.hid hb09
            generalize sm.length = ns at *
            clear ho9 hb9 hr9 hb09 hr8 HSt H8
            go_wp2_with fail
            refine HS.out.mono ?_
            rintro e w10 ⟨rfl, hg10⟩
            have Hb10 : Hid (Below w.heap.size w w10) := Hb.out.trans (hg10.below.mono Hb.out.size)
            clear hg10 HS
            go_wp2_with fail
            go_ret
            exact ⟨rfl, Hb10.out⟩
end
end Go.Proofs.YtghcfmkmndldoaaDoor

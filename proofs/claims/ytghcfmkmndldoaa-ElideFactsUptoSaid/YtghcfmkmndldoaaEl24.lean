/-
  The program's Filter.
-/
import Derived.Test.YtghcfmkmndldoaaEl23
namespace Go.Proofs.Ytghcfmkmndldoaa
open Go.RowKit Go.Sort Go.Lib

/-- THE CALL OWNS v, a slice of facts, and each fact's value -/
def RowP (w : World) (base : Nat) (v : Value) (fs : List Fc) : Prop := RowF w base v fs (Own w base)
section
variable {w w' w0 : World} {B base : Nat} {v v' u V : Value} {fs gs : List Fc} {x : List UInt8}
theorem RowP.nil (w : World) (base : Nat) : RowP w base (.slice none 0 0) [] := RowF.nil _ _ _
theorem RowP.below (h : RowP w base v fs) (hb : Below w.heap.size w w') : RowP w' base v fs := (RowF.below h hb).mono fun V x hO => hO.below hb
theorem RowP.rd (h : RowP w base v fs) : ∃ A c, v = .slice A fs.length c ∧ fs.length ≤ c ∧ (A = none → c = 0) ∧ RF w w.heap.size A fs ∧ ∀ b o, A = some ⟨b, o, none⟩ → base ≤ b := RowF.rd h fun V x hO => Vb.own hO
/-- a row of facts is no slice of bytes -/
theorem Own.noRow {ps : List (Fc × Value)} (h : Own w base V x) (hr : w.ownsRow base 50 3 v ps.length (cellsF ps)) : ∀ g, V.ownBlock = some g → v.ownBlock ≠ some g := fun g hg e => by
  rcases h.2 with ⟨e1, _⟩ | ⟨g', cap, cur, e1, _, hh, _⟩
  · rw [e1] at hg; cases hg
  · rw [e1] at hg
    cases hg
    rcases hr.2 with ⟨e2, _⟩ | ⟨g2, cap2, cur2, e2, _, hh2, _⟩
    · rw [e2] at e; cases e
    · rw [e2] at e
      cases e
      rw [hh] at hh2
      injection hh2 with hh2
      injection hh2 with _ h4 _
      revert h4
      decide
theorem RowF.snocP (h0 : RowP w base v fs) (h : RowF w' base v' gs (Own w base)) (hg : w.grownBy w' v.ownBlock) : RowP w' base v' gs := by
  obtain ⟨ps, _, ho, _⟩ := h0
  exact h.mono fun V x hV => hV.move fun g hgv => hg.block g (hV.lt g hgv).2 (fun e => hV.noRow ho g hgv e.symm)
end
section
set_option maxRecDepth 100000
set_option maxHeartbeats 16000000
theorem filter_any (g base : Nat) (l : List Ec) (A : Option Addr) (c : Nat) (fs : List Fc) (w : World) (h : SetAt w base g l) (hr : RF w w.heap.size A fs) (hl : fs.length ≤ 1048576) (hvl : ∀ f ∈ fs, f.2.2.length ≤ 1099511627776) :
    Calls Try.prog 30 #[.pointer (some ⟨g, 0, none⟩), .slice A fs.length c] w fun r w' => Below w.heap.size w w' ∧
      ((rightF fs = false ∧ r = .returned (.tuple #[.slice none 0 0, .int .i64 25])) ∨ (rightF fs = true ∧ ∃ u, r = .returned (.tuple #[u, .int .i64 0]) ∧ RowP w' w.heap.size u (filtN (topE l) fs fs.length))) := by
  have HR := Lib.hid (right_any A c fs w (by omega) hr)
  have H0 : Hid (SetAt w base g l ∧ RF w w.heap.size A fs) := ⟨h, hr⟩
  have hl' : (fs.length : Int) ≤ 1048576 := by omega
  have Hvl : Hid (∀ (k : Nat) f, fs[k]? = some f → f.2.2.length ≤ 1099511627776) := fun k f hf => hvl f (List.mem_of_getElem? hf)
  have Hlen : Hid (∀ k : Nat, k < fs.length → ∃ u, fs[k]? = some u) := fun k hk => ⟨_, List.getElem?_eq_getElem hk⟩
  obtain ⟨n, hn⟩ : ∃ n, n = fs.length := ⟨_, rfl⟩
  rw [← hn] at hl' Hlen HR ⊢
  have Hn := Lib.hid hn
  clear h hr hl hn hvl
  cases hq : rightF fs with
  | false =>
    rw [hq] at HR
    clear hq
    go_enter Try.func30, Try.ntmps30
    go_wp2_with fail
    refine HR.out.mono ?_
    rintro r w1 ⟨rfl, hb1⟩
    have H1 : Hid (Below w.heap.size w w1) := hb1.below
    clear hb1 HR
    go_wp2_with fail
    exact bodyPost_ret (v := .tuple #[.slice none 0 0, .int .i64 25]) (by simp [results, Try.results30, go_sem]) rfl (by first | exact ⟨H1.out, .inl ⟨rfl, rfl⟩⟩ | exact ⟨H1.out, .inl ⟨trivial, rfl⟩⟩ | exact ⟨H1.out, rfl⟩)
  | true =>
    rw [hq] at HR
    clear hq
    go_enter Try.func30, Try.ntmps30
    go_wp2_with fail
    refine HR.out.mono ?_
    rintro r w1 ⟨rfl, hb1⟩
    have H1 : Hid (Below w.heap.size w w1) := hb1.below
    clear hb1 HR
    go_wp2_with fail
    go_loopw [6, 15] (fun sv iv wr => ∃ (i : Nat) (sv' : Value), sv = sv' ∧ iv = .int .i64 (i : Int) ∧ i ≤ n ∧ Hid (RowP wr w.heap.size sv' (filtN (topE l) fs i) ∧ Below w.heap.size w wr)) (fun _ iv _ => n - (intOf iv).toNat)
    case atStart => exact ⟨0, _, rfl, rfl, Nat.zero_le _, RowP.nil _ _, H1.out⟩
    case round =>
      obtain ⟨i, sv, esv, rfl, hi, hst⟩ := hrel
      obtain rfl := esv.symm
      by_cases hlt : i < n
      · obtain ⟨f, hf⟩ := Hlen.out i hlt
        have hlt' : (i : Int) < (n : Int) := by omega
        obtain ⟨b, o, V, rfl, hblt, x0, x1, x2, hV, hs64⟩ := H0.out.2.at_ hf
        have y0 := (hst.out.2.cell (p := ⟨b, o + i * 3, none⟩) hblt).trans x0
        have y1 := (hst.out.2.cell (p := ⟨b, o + i * 3 + 1, none⟩) hblt).trans x1
        have y2 := (hst.out.2.cell (p := ⟨b, o + i * 3 + 2, none⟩) hblt).trans x2
        have Hf : Hid (fs[i]? = some f ∧ f.2.1 < two64 ∧ Vb w w.heap.size V f.2.2 ∧ i + 1 ≤ n ∧ i < n ∧ f.2.2.length ≤ 1099511627776) := ⟨hf, hs64, hV, by omega, hlt, Hvl.out i f hf⟩
        have Hstep := Lib.hid (filt_step (t := topE l) hf)
        have Hlen1 : Hid ((filtN (topE l) fs i).length + 1 ≤ 1099511627776) := by show _ ≤ _; have := filt_len (topE l) fs i; omega
        obtain ⟨d, hd⟩ : ∃ d, d = dupB fs i := ⟨_, rfl⟩
        rw [← hd] at Hstep
        have Hd := Lib.hid hd
        obtain ⟨A9, c9, rfl, _⟩ := hV
        obtain ⟨W7, hW7⟩ : ∃ W7, W7 = wr.alloc (.cells #[.string f.1, .int .u64 (f.2.1 : Int), .slice A9 f.2.2.length c9] 50) := ⟨_, rfl⟩
        have hb7 : Below wr.heap.size wr W7 := by rw [hW7]; exact (Below.refl _ _).alloc (Nat.le_refl _) _
        have hC7 : Cells W7 wr.heap.size 50 [.string f.1, .int .u64 (f.2.1 : Int), .slice A9 f.2.2.length c9] := by rw [hW7]; exact Cells.new wr _ _
        have H7 : Hid (RowP W7 w.heap.size sv (filtN (topE l) fs i) ∧ Below w.heap.size w W7 ∧ Cells W7 wr.heap.size 50 [.string f.1, .int .u64 (f.2.1 : Int), .slice A9 f.2.2.length c9] ∧ w.heap.size ≤ wr.heap.size) := ⟨RowP.below hst.out.1 hb7, hst.out.2.trans (hb7.mono hst.out.2.size), hC7, hst.out.2.size⟩
        clear hf hblt x0 x1 x2 hs64 hd hst hb7 hC7 Hvl
        go_upto_region 7 with fail
        rw [← hW7]
        clear y0 y1 y2 hW7
        generalize wr.heap.size = bk at *
        go_cut [9] (fun u wx => u = .bool d ∧ Hid (RowP wx w.heap.size sv (filtN (topE l) fs i) ∧ Below w.heap.size w wx ∧ Cells wx bk 50 [.string f.1, .int .u64 (f.2.1 : Int), .slice A9 f.2.2.length c9] ∧ w.heap.size ≤ bk))
        case first => as_aux_lemma =>
          have y0 := H7.out.2.2.1.cell (i := 0) rfl
          by_cases hi0 : i = 0
          · obtain rfl : d = false := by rw [Hd.out, hi0]; rfl
            have q1 : decide (0 < i) = false := decide_eq_false (by omega)
            have q2 : ¬ (i : Int) > 0 := by omega
            clear hi0 Hd Hstep
            go_quiet (fail)
            go_wp2_with fail
            go_meet
            exact ⟨rfl, RowP.below H7.out.1 ⟨rfl, rfl, rfl, Nat.le_refl _, fun _ _ => rfl⟩, below_dr H7.out.2.1 nq, H7.out.2.2⟩
          · obtain ⟨e, he⟩ := Hlen.out (i - 1) (by omega)
            obtain ⟨b', o', V', e', _, z0, _, _, _, _⟩ := (H0.out.2.below H7.out.2.1).at_ he
            cases e'
            have hz1 : IntKind.i64.wrap ((i : Int) - 1) = ((i - 1 : Nat) : Int) := by rw [IntKind.wrap_i64]; omega
            have hz2 : ((i - 1 : Nat) : Int) < (n : Int) := by omega
            have hkb := textB_eq f.1 e.1
            have hkb2 := textB_eq e.1 f.1
            have q1 : decide (0 < i) = true := decide_eq_true (by omega)
            have q2 : (i : Int) > 0 := by omega
            have hdd := Hd.out
            rw [dup_at (by omega) he Hf.out.1] at hdd
            generalize i - 1 = ip at *
            by_cases hk : e.1 = f.1
            · rw [decide_eq_true hk.symm] at hkb
              rw [decide_eq_true hk] at hkb2
              obtain rfl : d = true := by rw [hdd]; exact decide_eq_true hk
              clear he hi0 Hd Hstep hk hdd
              go_quiet (fail)
              go_wp2_with fail
              go_meet
              exact ⟨rfl, RowP.below H7.out.1 ⟨rfl, rfl, rfl, Nat.le_refl _, fun _ _ => rfl⟩, below_dr H7.out.2.1 nq, H7.out.2.2⟩
            · rw [decide_eq_false (fun q => hk q.symm)] at hkb
              rw [decide_eq_false hk] at hkb2
              obtain rfl : d = false := by rw [hdd]; exact decide_eq_false hk
              clear he hi0 Hd Hstep hk hdd
              go_quiet (fail)
              go_wp2_with fail
              go_meet
              exact ⟨rfl, RowP.below H7.out.1 ⟨rfl, rfl, rfl, Nat.le_refl _, fun _ _ => rfl⟩, below_dr H7.out.2.1 nq, H7.out.2.2⟩
        case rest =>
          obtain ⟨rfl, Hs⟩ := hcut
          clear H7 Hd
          generalize wc = wa at *
          cases d with
          | true =>
            have Hs2 : Hid (RowP wa w.heap.size sv (filtN (topE l) fs (i + 1)) ∧ Below w.heap.size w wa) := ⟨by rw [Hstep.out, if_neg (by simp), List.append_nil]; exact Hs.out.1, Hs.out.2.1⟩
            clear Hs Hstep
            go_wp2_with fail
            go_roundw
            case rel => exact ⟨i + 1, _, rfl, by go_num, Hf.out.2.2.2.1, Hs2⟩
            case measure => have := Hf.out.2.2.2.2.1; simp [intOf]; omega
          | false =>
            have k0 := Hs.out.2.2.1.cell (i := 0) rfl
            have k1 := Hs.out.2.2.1.cell (i := 1) rfl
            have HHas := Lib.hid (has_any g base l f.1 f.2.1 wa (H0.out.1.below Hs.out.2.1))
            by_cases hq : f.2.1 < topE l f.1
            · rw [decide_eq_true hq] at HHas
              have Heq : Hid (filtN (topE l) fs (i + 1) = filtN (topE l) fs i) := by show _ = _; rw [Hstep.out, if_neg (fun q => q.2 hq), List.append_nil]
              clear Hstep hq
              go_wp2_with fail
              refine HHas.out.mono ?_
              rintro r w3 ⟨rfl, hb3⟩
              have H3 : Hid (RowP w3 w.heap.size sv (filtN (topE l) fs i) ∧ Below w.heap.size w w3) := ⟨RowP.below Hs.out.1 hb3, Hs.out.2.1.trans (hb3.mono Hs.out.2.1.size)⟩
              clear hb3 Hs HHas k0 k1
              go_wp2_with fail
              go_roundw
              case rel => exact ⟨i + 1, _, rfl, by go_num, Hf.out.2.2.2.1, by rw [Heq.out]; exact H3⟩
              case measure => have := Hf.out.2.2.2.2.1; simp [intOf]; omega
            · rw [decide_eq_false hq] at HHas
              have Heq : Hid (filtN (topE l) fs (i + 1) = filtN (topE l) fs i ++ [f]) := by show _ = _; rw [Hstep.out, if_pos ⟨rfl, hq⟩]
              clear Hstep hq
              go_wp2_with fail
              refine HHas.out.mono ?_
              rintro r w3 ⟨rfl, hb3⟩
              have hC3 := Hs.out.2.2.1.move (hb3.block _ Hs.out.2.2.1.lt)
              have hbw3 : Below w.heap.size w w3 := Hs.out.2.1.trans (hb3.mono Hs.out.2.1.size)
              have H3 : Hid (RowP w3 w.heap.size sv (filtN (topE l) fs i) ∧ Below w.heap.size w w3) := ⟨RowP.below Hs.out.1 hb3, hbw3⟩
              have HCp := Lib.hid (ecopied_any f (.slice A9 f.2.2.length c9) w3 ((Hf.out.2.2.1.below hbw3).wide hbw3.size) Hf.out.2.2.2.2.2)
              unfold fcV at HCp
              have m0 := hC3.cell (i := 0) rfl
              have m1 := hC3.cell (i := 1) rfl
              have m2 := hC3.cell (i := 2) rfl
              clear hb3 hbw3 hC3 Hs HHas k0 k1
              go_wp2_with fail
              refine HCp.out.mono ?_
              rintro r w4 ⟨V5, rfl, ho5, hb4⟩
              have hbw4 : Below w.heap.size w w4 := H3.out.2.trans (hb4.mono H3.out.2.size)
              obtain ⟨A5, c5, rfl, _⟩ := ho5.rb
              have hba : Below w4.heap.size w4 (w4.alloc (.cells #[.string f.1, .int .u64 (f.2.1 : Int), .slice A5 f.2.2.length c5] 50)) := (Below.refl _ _).alloc (Nat.le_refl _) _
              have H4 : Hid (RowP (w4.alloc (.cells #[.string f.1, .int .u64 (f.2.1 : Int), .slice A5 f.2.2.length c5] 50)) w.heap.size sv (filtN (topE l) fs i) ∧ Below w.heap.size w (w4.alloc (.cells #[.string f.1, .int .u64 (f.2.1 : Int), .slice A5 f.2.2.length c5] 50)) ∧ Own (w4.alloc (.cells #[.string f.1, .int .u64 (f.2.1 : Int), .slice A5 f.2.2.length c5] 50)) w.heap.size (.slice A5 f.2.2.length c5) f.2.2) :=
                ⟨RowP.below (RowP.below H3.out.1 hb4) hba, hbw4.trans (hba.mono hbw4.size), (ho5.wide H3.out.2.size).below hba⟩
              clear hb4 hbw4 hba ho5 HCp m0 m1 m2
              go_wp2_with (at_builtin; go_must (refine app_row1 (S := Own (w4.alloc (.cells #[.string f.1, .int .u64 (f.2.1 : Int), .slice A5 f.2.2.length c5] 50)) w.heap.size) rfl (.tmp 44) (.tmp 47) rfl f rfl H4.out.1 (RP.one w4 f (.slice A5 f.2.2.length c5)) H4.out.2.2 Hf.out.2.1 rfl 1 rfl Hlen1.out H4.out.2.1.size ?_); intro v6 w6 r6 g6 _; have H6 : Hid (RowP w6 w.heap.size v6 (filtN (topE l) fs (i + 1)) ∧ Below w.heap.size w w6) := ⟨by rw [Heq.out]; exact RowF.snocP H4.out.1 r6 g6, H4.out.2.1.trans (RowF.grownB H4.out.1 g6 H4.out.2.1.size)⟩; clear r6 g6)
              go_roundw
              case rel => exact ⟨i + 1, _, rfl, by go_num, Hf.out.2.2.2.1, H6⟩
              case measure => have := Hf.out.2.2.2.2.1; simp [intOf]; omega
      · obtain rfl : i = n := by omega
        have Hs := Lib.hid hst.out
        clear hst hlt
        go_wp2_with fail
        exact bodyPost_ret (v := .tuple #[sv, .int .i64 0]) (by simp [results, Try.results30, go_sem]) rfl (by first | exact ⟨Hs.out.2, sv, rfl, Hs.out.1⟩ | exact ⟨Hs.out.2, .inr ⟨rfl, sv, rfl, Hs.out.1⟩⟩)
end
end Go.Proofs.Ytghcfmkmndldoaa

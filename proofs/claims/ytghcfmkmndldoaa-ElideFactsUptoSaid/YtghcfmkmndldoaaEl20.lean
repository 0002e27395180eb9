/-
  Of each key the newest fact that is not elided, plain; the second saying's Filter.
-/
import Derived.Test.YtghcfmkmndldoaaEl19
import Derived.Test.YtghcfmkmndldoaaFa5
import Derived.Test.YtghcfmkmndldoaaFa20
namespace Go.Proofs.Ytghcfmkmndldoaa
open Go.RowKit Go.Sort Go.Lib

/-- is the fact at i one of the key that stands ahead? -/
def dupB (fs : List Fc) (i : Nat) : Bool := match i with
  | 0 => false
  | j + 1 => match fs[j]?, fs[j + 1]? with | some p, some f => decide (p.1 = f.1) | _, _ => false
theorem dup_zero (fs : List Fc) : dupB fs 0 = false := rfl
theorem dup_at {fs : List Fc} {i : Nat} {p f : Fc} (hi : 0 < i) (hp : fs[i - 1]? = some p) (hf : fs[i]? = some f) : dupB fs i = decide (p.1 = f.1) := by
  obtain ⟨j, rfl⟩ : ∃ j, i = j + 1 := ⟨i - 1, by omega⟩
  rw [Nat.add_sub_cancel] at hp
  unfold dupB
  simp only [hp, hf]
def filtN (t : ByteArray → Nat) (fs : List Fc) : Nat → List Fc
  | 0 => []
  | i + 1 => filtN t fs i ++ match fs[i]? with
    | some f => if dupB fs i = false ∧ ¬ f.2.1 < t f.1 then [f] else []
    | none => []
theorem filt_step {t : ByteArray → Nat} {fs : List Fc} {i : Nat} {f : Fc} (h : fs[i]? = some f) : filtN t fs (i + 1) = filtN t fs i ++ if dupB fs i = false ∧ ¬ f.2.1 < t f.1 then [f] else [] := by
  rw [filtN]
  simp only [h]
theorem filt_len (t : ByteArray → Nat) (fs : List Fc) : ∀ i, (filtN t fs i).length ≤ i
  | 0 => Nat.le_refl _
  | i + 1 => by
    have := filt_len t fs i
    rw [filtN, List.length_append]
    split
    · split <;> simp <;> omega
    · simp; omega
section
set_option maxRecDepth 100000
set_option maxHeartbeats 16000000
theorem rfilter_any (base g : Nat) (v : Value) (l : List Ec) (A : Option Addr) (c : Nat) (fs : List Fc) (w : World) (h : RefSet w base g v l) (hr : RF w w.heap.size A fs) (hl : fs.length ≤ 1048576) :
    Calls Try.prog 31 #[.pointer (some ⟨g, 0, none⟩), .slice A fs.length c] w fun r w' => Below w.heap.size w w' ∧
      ((rightF fs = false ∧ r = .returned (.tuple #[.slice none 0 0, .int .i64 25])) ∨ (rightF fs = true ∧ ∃ u, r = .returned (.tuple #[u, .int .i64 0]) ∧ RowF w' w.heap.size u (filtN (topE l) fs fs.length) (Vb w w.heap.size))) := by
  have HR := Lib.hid (rright_any A c fs w (by omega) hr)
  have H0 : Hid (RefSet w base g v l ∧ RF w w.heap.size A fs) := ⟨h, hr⟩
  have hl' : (fs.length : Int) ≤ 1048576 := by omega
  have Hlen : Hid (∀ k : Nat, k < fs.length → ∃ u, fs[k]? = some u) := fun k hk => ⟨_, List.getElem?_eq_getElem hk⟩
  obtain ⟨n, hn⟩ : ∃ n, n = fs.length := ⟨_, rfl⟩
  rw [← hn] at hl' Hlen HR ⊢
  have Hn := Lib.hid hn
  clear h hr hl hn
  cases hq : rightF fs with
  | false =>
    rw [hq] at HR
    clear hq
    go_enter Try.func31, Try.ntmps31
    go_wp2_with fail
    refine HR.out.mono ?_
    rintro r w1 ⟨rfl, hb1⟩
    have H1 : Hid (Below w.heap.size w w1) := hb1.below
    clear hb1 HR
    go_wp2_with fail
    exact bodyPost_ret (v := .tuple #[.slice none 0 0, .int .i64 25]) (by simp [results, Try.results31, go_sem]) rfl (by first | exact ⟨H1.out, .inl ⟨rfl, rfl⟩⟩ | exact ⟨H1.out, .inl ⟨trivial, rfl⟩⟩ | exact ⟨H1.out, rfl⟩)
  | true =>
    rw [hq] at HR
    clear hq
    go_enter Try.func31, Try.ntmps31
    go_wp2_with fail
    refine HR.out.mono ?_
    rintro r w1 ⟨rfl, hb1⟩
    have H1 : Hid (Below w.heap.size w w1) := hb1.below
    clear hb1 HR
    go_wp2_with fail
    go_loopw [6, 7] (fun sv iv wr => ∃ (i : Nat) (sv' : Value), sv = sv' ∧ iv = .int .i64 (i : Int) ∧ i ≤ n ∧ Hid (RowF wr w.heap.size sv' (filtN (topE l) fs i) (Vb w w.heap.size) ∧ Below w.heap.size w wr)) (fun _ iv _ => n - (intOf iv).toNat)
    case atStart => exact ⟨0, _, rfl, rfl, Nat.zero_le _, RowF.nil _ _ _, H1.out⟩
    case round =>
      obtain ⟨i, sv, esv, rfl, hi, hst⟩ := hrel
      obtain rfl := esv.symm
      by_cases hlt : i < n
      · obtain ⟨f, hf⟩ := Hlen.out i hlt
        have hlt' : (i : Int) < (n : Int) := by omega
        obtain ⟨b, o, V, rfl, hblt, x0, x1, x2, hV, hs64⟩ := H0.out.2.at_ hf
        have HX : Hid (∀ W, Below w.heap.size w W → W.cell? ⟨b, o + i * 3, none⟩ = some (.string f.1) ∧ W.cell? ⟨b, o + i * 3 + 1, none⟩ = some (.int .u64 (f.2.1 : Int)) ∧ W.cell? ⟨b, o + i * 3 + 2, none⟩ = some V) := fun W hW => ⟨(hW.cell (p := ⟨b, o + i * 3, none⟩) hblt).trans x0, (hW.cell (p := ⟨b, o + i * 3 + 1, none⟩) hblt).trans x1, (hW.cell (p := ⟨b, o + i * 3 + 2, none⟩) hblt).trans x2⟩
        obtain ⟨y0, y1, y2⟩ := HX.out wr hst.out.2
        have Hf : Hid (fs[i]? = some f ∧ f.2.1 < two64 ∧ Vb w w.heap.size V f.2.2 ∧ i + 1 ≤ n ∧ i < n) := ⟨hf, hs64, hV, by omega, hlt⟩
        have Hstep := Lib.hid (filt_step (t := topE l) hf)
        have Hlen1 : Hid ((filtN (topE l) fs i).length + 1 ≤ 1099511627776) := by show _ ≤ _; have := filt_len (topE l) fs i; omega
        obtain ⟨d, hd⟩ : ∃ d, d = dupB fs i := ⟨_, rfl⟩
        rw [← hd] at Hstep
        have Hd := Lib.hid hd
        clear hf hblt x0 x1 x2 hs64 hd
        go_upto_region 7 with fail
        go_cut [32] (fun u wx => u = .bool d ∧ Hid (RowF wx w.heap.size sv (filtN (topE l) fs i) (Vb w w.heap.size) ∧ Below w.heap.size w wx))
        case first => as_aux_lemma =>
          by_cases hi0 : i = 0
          · obtain rfl : d = false := by rw [Hd.out, hi0]; rfl
            have q1 : decide (0 < i) = false := decide_eq_false (by omega)
            have q2 : ¬ (i : Int) > 0 := by omega
            clear hi0 HX Hd Hstep
            go_quiet (fail)
            go_wp2_with fail
            go_meet
            exact ⟨rfl, RowF.below hst.out.1 ⟨rfl, rfl, rfl, Nat.le_refl _, fun _ _ => rfl⟩, below_dr hst.out.2 nq⟩
          · obtain ⟨e, he⟩ := Hlen.out (i - 1) (by omega)
            obtain ⟨b', o', V', e', _, z0, _, _, _, _⟩ := (H0.out.2.below hst.out.2).at_ he
            cases e'
            have hz1 : IntKind.i64.wrap ((i : Int) - 1) = ((i - 1 : Nat) : Int) := by rw [IntKind.wrap_i64]; omega
            have hz2 : ((i - 1 : Nat) : Int) < (n : Int) := by omega
            have hkb := textB_eq f.1 e.1
            have hkb2 := textB_eq e.1 f.1
            have q1 : decide (0 < i) = true := decide_eq_true (by omega)
            have q2 : (i : Int) > 0 := by omega
            have hdd := Hd.out
            rw [dup_at (by omega) he Hf.out.1] at hdd
            generalize i - 1 = ip at *
            by_cases hk : e.1 = f.1
            · rw [decide_eq_true hk.symm] at hkb
              rw [decide_eq_true hk] at hkb2
              obtain rfl : d = true := by rw [hdd]; exact decide_eq_true hk
              clear he hi0 HX Hd Hstep hk hdd
              go_quiet (fail)
              go_wp2_with fail
              go_meet
              exact ⟨rfl, RowF.below hst.out.1 ⟨rfl, rfl, rfl, Nat.le_refl _, fun _ _ => rfl⟩, below_dr hst.out.2 nq⟩
            · rw [decide_eq_false (fun q => hk q.symm)] at hkb
              rw [decide_eq_false hk] at hkb2
              obtain rfl : d = false := by rw [hdd]; exact decide_eq_false hk
              clear he hi0 HX Hd Hstep hk hdd
              go_quiet (fail)
              go_wp2_with fail
              go_meet
              exact ⟨rfl, RowF.below hst.out.1 ⟨rfl, rfl, rfl, Nat.le_refl _, fun _ _ => rfl⟩, below_dr hst.out.2 nq⟩
        case rest =>
          obtain ⟨rfl, Hs⟩ := hcut
          clear hst y0 y1 y2 Hd
          generalize wc = wa at *
          cases d with
          | true =>
            have Hs2 : Hid (RowF wa w.heap.size sv (filtN (topE l) fs (i + 1)) (Vb w w.heap.size) ∧ Below w.heap.size w wa) := ⟨by rw [Hstep.out, if_neg (by simp), List.append_nil]; exact Hs.out.1, Hs.out.2⟩
            clear Hs Hstep HX
            go_wp2_with fail
            go_roundw
            case rel => exact ⟨i + 1, _, rfl, by go_num, Hf.out.2.2.2.1, Hs2⟩
            case measure => have := Hf.out.2.2.2.2; simp [intOf]; omega
          | false =>
            obtain ⟨y0, y1, y2⟩ := HX.out wa Hs.out.2
            obtain ⟨d0, d1, d2⟩ := HX.out wa.drew Hs.out.2.drew
            have HHas : Hid (∀ W, (W = wa ∨ W = wa.drew) → Calls Try.prog 21 #[.pointer (some ⟨g, 0, none⟩), .string f.1, .int .u64 (f.2.1 : Int)] W fun r w' => r = .returned (.bool (decide (f.2.1 < topE l f.1))) ∧ Hid (RowF w' w.heap.size sv (filtN (topE l) fs i) (Vb w w.heap.size) ∧ Below w.heap.size w w')) := fun W hW => by
              have hb : Below wa.heap.size wa W := by
                rcases hW with rfl | rfl
                · exact Below.refl _ _
                · exact (Below.refl _ _).drew
              have hwW : Below w.heap.size w W := Hs.out.2.trans (hb.mono Hs.out.2.size)
              refine (rhas_any base g v l f.1 f.2.1 W (H0.out.1.below hwW)).mono ?_
              rintro r w' ⟨rfl, hb9⟩
              exact ⟨rfl, (RowF.below (RowF.below Hs.out.1 hb) hb9), hwW.trans (hb9.mono hwW.size)⟩
            obtain ⟨A9, c9, rfl, _⟩ := Hf.out.2.2.1
            by_cases hq : f.2.1 < topE l f.1
            · rw [decide_eq_true hq] at HHas
              have Heq : Hid (filtN (topE l) fs (i + 1) = filtN (topE l) fs i) := by show _ = _; rw [Hstep.out, if_neg (fun q => q.2 hq), List.append_nil]
              clear Hs Hstep hq
              go_upto_region 8 with fail
              go_region_with (go_at_call 21; refine (HHas.out _ (by first | exact .inl (by with_reducible rfl) | exact .inr (by with_reducible rfl))).mono ?_; rintro e w3 ⟨rfl, H3⟩)
              all_goals
                go_wp2_with fail
                go_roundw
                case rel => exact ⟨i + 1, _, rfl, by go_num, Hf.out.2.2.2.1, by rw [Heq.out]; exact H3⟩
                case measure => have := Hf.out.2.2.2.2; simp [intOf]; omega
            · rw [decide_eq_false hq] at HHas
              have Heq : Hid (filtN (topE l) fs (i + 1) = filtN (topE l) fs i ++ [f]) := by show _ = _; rw [Hstep.out, if_pos ⟨rfl, hq⟩]
              clear Hs Hstep hq
              go_upto_region 8 with fail
              go_region_with (go_at_call 21; refine (HHas.out _ (by first | exact .inl (by with_reducible rfl) | exact .inr (by with_reducible rfl))).mono ?_; rintro e w3 ⟨rfl, H3⟩; obtain ⟨t0, t1, t2⟩ := HX.out w3 H3.out.2)
              all_goals
                have hba : Below w3.heap.size w3 (w3.alloc (.cells #[.string f.1, .int .u64 (f.2.1 : Int), .slice A9 f.2.2.length c9] 50)) := (Below.refl _ _).alloc (Nat.le_refl _) _
                have H4 : Hid (RowF (w3.alloc (.cells #[.string f.1, .int .u64 (f.2.1 : Int), .slice A9 f.2.2.length c9] 50)) w.heap.size sv (filtN (topE l) fs i) (Vb w w.heap.size) ∧ Below w.heap.size w (w3.alloc (.cells #[.string f.1, .int .u64 (f.2.1 : Int), .slice A9 f.2.2.length c9] 50))) := ⟨H3.out.1.below hba, H3.out.2.trans (hba.mono H3.out.2.size)⟩
                clear hba
                go_wp2_with (at_builtin; go_must (refine app_row1 (S := Vb w w.heap.size) rfl (.tmp 46) (.tmp 51) rfl f rfl H4.out.1 (RP.one w3 f (.slice A9 f.2.2.length c9)) Hf.out.2.2.1 Hf.out.2.1 rfl 1 rfl Hlen1.out H4.out.2.size ?_); intro v6 w6 r6 g6 _; have H6 : Hid (RowF w6 w.heap.size v6 (filtN (topE l) fs (i + 1)) (Vb w w.heap.size) ∧ Below w.heap.size w w6) := ⟨by rw [Heq.out]; exact r6, H4.out.2.trans (RowF.grownB H4.out.1 g6 H4.out.2.size)⟩; clear r6 g6)
                go_roundw
                case rel => exact ⟨i + 1, _, rfl, by go_num, Hf.out.2.2.2.1, H6⟩
                case measure => have := Hf.out.2.2.2.2; simp [intOf]; omega
      · obtain rfl : i = n := by omega
        have Hs := Lib.hid hst.out
        clear hst hlt
        go_wp2_with fail
        exact bodyPost_ret (v := .tuple #[sv, .int .i64 0]) (by simp [results, Try.results31, go_sem]) rfl (by first | exact ⟨Hs.out.2, sv, rfl, Hs.out.1⟩ | exact ⟨Hs.out.2, .inr ⟨rfl, sv, rfl, Hs.out.1⟩⟩)
end
end Go.Proofs.Ytghcfmkmndldoaa

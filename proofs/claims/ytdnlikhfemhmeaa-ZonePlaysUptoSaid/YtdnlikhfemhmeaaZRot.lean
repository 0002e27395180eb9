/-
  Rot: one bit of a page is another one.
-/
import Derived.Test.YtdnlikhfemhmeaaZLose
import Derived.Laws.BitsAllLaws
namespace Go.Proofs.Ytdnlikhfemhmeaa
open Go.RowKit

def flipB (x : UInt8) (k : Nat) : UInt8 := UInt8.ofNat (x.toNat ^^^ 2 ^ k)
def flipAt (l : List UInt8) (n : Nat) : List UInt8 := l.set (n / 8) (flipB (l.getD (n / 8) 0) (n % 8))
def rotBit (size : Nat) (bit : Int) : Nat := ((max bit 0) % (8 * (size : Int))).toNat
def rotOk (D : Drv) (z k : Int) : Bool := decide ((0 ≤ z ∧ z < (D.piles.length : Int)) ∧ 0 ≤ k ∧ k < ((zoneOf D z).pages.length : Int))
def Pile.rot (p : Pile) (k n : Nat) : Pile := ⟨p.pages.set k (flipAt (p.pages.getD k []) n), p.firm⟩
def Drv.rot (D : Drv) (z k n : Nat) : Drv := { D with piles := D.piles.set z ((D.piles.getD z ⟨[], 0⟩).rot k n) }
def rotD (ds : List (Nat × Drv)) (i d : Nat) (D : Drv) (z k bit : Int) : List (Nat × Drv) := if rotOk D z k then ds.set i (d, D.rot z.toNat k.toNat (rotBit D.size bit)) else ds
theorem flipAt_len (l : List UInt8) (n : Nat) : (flipAt l n).length = l.length := by simp [flipAt]
theorem Drv.Ok.rot {D : Drv} (h : D.Ok) (z k n : Nat) (p : Pile) (hz : D.piles[z]? = some p) (l : List UInt8) (hk : p.pages[k]? = some l) : (D.rot z k n).Ok := by
  have hm : p ∈ D.piles := List.mem_of_getElem? hz
  have hg : D.piles.getD z ⟨[], 0⟩ = p := by rw [List.getD_eq_getElem?_getD, hz]; rfl
  have hgl : p.pages.getD k [] = l := by rw [List.getD_eq_getElem?_getD, hk]; rfl
  have hmem : ∀ q ∈ D.piles.set z (p.rot k n), q = p.rot k n ∨ q ∈ D.piles := fun q hq => by
    rcases List.mem_or_eq_of_mem_set hq with h | h
    · exact .inr h
    · exact .inl h
  unfold Drv.rot
  rw [hg]
  refine ⟨by simp only [List.length_set]; exact h.zones, h.cap, h.low, h.high, fun q hq => ?_, fun q hq => ?_, fun q hq l' hl' => ?_, fun hl q hq => ?_⟩
  · rcases hmem q hq with rfl | hq
    · simp only [Pile.rot, List.length_set]; exact h.pages _ hm
    · exact h.pages _ hq
  · rcases hmem q hq with rfl | hq
    · simp only [Pile.rot, List.length_set]; exact h.firm _ hm
    · exact h.firm _ hq
  · rcases hmem q hq with rfl | hq
    · simp only [Pile.rot] at hl'
      rcases List.mem_or_eq_of_mem_set hl' with h2 | h2
      · exact h.sizes _ hm l' h2
      · rw [h2, flipAt_len, hgl]
        exact h.sizes _ hm l (List.mem_of_getElem? hk)
    · exact h.sizes _ hq l' hl'
  · rcases hmem q hq with rfl | hq
    · have := h.lost hl p hm
      subst this
      simp at hk
    · exact h.lost hl q hq
theorem flip_val (x : UInt8) (k : Nat) (hk : k < 8) : bits .xor .u8 (x.toNat : Int) (2 ^ k % 256) = ((flipB x k).toNat : Int) := by
  have hp : 2 ^ k < 256 := Nat.pow_lt_pow_right (a := 2) (n := 8) (by decide) hk
  have hp0 : 0 < 2 ^ k := Nat.pow_pos (by decide)
  have hb := x.toNat_lt
  have hx : x.toNat ^^^ 2 ^ k < 256 := Nat.xor_lt_two_pow (n := 8) hb hp
  have e : (flipB x k).toNat = x.toNat ^^^ 2 ^ k := by unfold flipB; rw [UInt8.toNat_ofNat']; exact Nat.mod_eq_of_lt hx
  rw [e, ← u8_xor_nat x.toNat (2 ^ k) hb hp]
  congr 1
  have : (2 : Int) ^ k = ((2 ^ k : Nat) : Int) := by simp
  rw [this]
  omega
theorem Own.toV' {w : World} {B : Nat} {v : Value} {l : List UInt8} (h : Own w B v l) : OwnV w B 5 v (bvs l) := by
  unfold OwnV
  rw [bvs_length]
  exact h
theorem Own.poke {w : World} {B b c : Nat} {l : List UInt8} (h : Own w B (.slice (some ⟨b, 0, none⟩) l.length c) l) (j : Nat) (y : UInt8) : Own (w.setCell ⟨b, j, none⟩ (.int .u8 (y.toNat : Int))) B (.slice (some ⟨b, 0, none⟩) (l.set j y).length c) (l.set j y) := by
  rcases h.toV'.form with ⟨q, _⟩ | ⟨g, cap, cur, q, hb, hc, hn, hm, hl, ht⟩
  · exact absurd q (by intro e; injection e with e1; cases e1)
  · have e1 : b = g := by injection q with q1; injection q1 with q2; injection q2
    have e2 : c = cap := by injection q
    subst e1
    subst e2
    have h2 := OwnV.mk (w := w.setCell ⟨b, j, none⟩ (.int .u8 (y.toNat : Int))) (base := B) (xs := bvs (l.set j y)) hb (hc.set j (.int .u8 (y.toNat : Int))) (by simpa [bvs] using hn) hm (by simpa using hl) (by
      rw [show (bvs (l.set j y)).length = (bvs l).length by simp [bvs], List.take_set, ht]
      simp [bvs, List.map_set, bv])
    rw [bvs_length] at h2
    unfold OwnV at h2
    rw [bvs_length] at h2
    exact h2

theorem rot_facts {w : World} {O : Nat → Option Tag} {pw i d g z k b c n : Nat} {P : Pow} {ds : List (Nat × Drv)} {D : Drv} {p : Pile} {cs vs : List Value} {v : Value} {l : List UInt8} (h : SysAt w O pw P ds) (hi : ds[i]? = some (d, D))
    (h1 : Cells w d 71 [.pointer (some ⟨pw, 0, none⟩), .slice (some ⟨g, 0, none⟩) D.piles.length D.piles.length, .int .i64 (D.cap : Int), .int .i64 (D.size : Int), .bool D.lost]) (h2 : O d = some (.drv i))
    (h3 : Cells w g 91 cs) (h4 : O g = some (.piles i)) (h5 : cs.length = D.piles.length * 2) (h6 : ∀ (z : Nat) p, D.piles[z]? = some p → PileAt w O i z cs p)
    (hz : D.piles[z]? = some p) (c0 : cs[z * 2]? = some v) (c1 : cs[z * 2 + 1]? = some (.int .i64 (p.firm : Int))) (hrow : OwnV w 0 46 v vs) (hOr : ∀ g, v.ownBlock = some g → O g = some (.row i z)) (hvl : vs.length = p.pages.length)
    (hpg : ∀ (k : Nat) l, p.pages[k]? = some l → ∃ u, vs[k]? = some u ∧ PageAt w O (.page i z k) u l) (hk : p.pages[k]? = some l) (hu : vs[k]? = some (.slice (some ⟨b, 0, none⟩) l.length c)) (hOb : O b = some (.page i z k)) (hown : Own w 0 (.slice (some ⟨b, 0, none⟩) l.length c) l) :
    SysAt (w.setCell ⟨b, n / 8, none⟩ (.int .u8 ((flipB (l.getD (n / 8) 0) (n % 8)).toNat : Int))) O pw P (ds.set i (d, D.rot z k n)) ∧ Ext w O (w.setCell ⟨b, n / 8, none⟩ (.int .u8 ((flipB (l.getD (n / 8) 0) (n % 8)).toNat : Int))) O := by
  have hK : Kept (fun x => x ≠ b) w (w.setCell ⟨b, n / 8, none⟩ (.int .u8 ((flipB (l.getD (n / 8) 0) (n % 8)).toNat : Int))) := (Kept.refl _ w).setCell (fun h => h rfl) _
  have hag : Agree (fun t => t ≠ .page i z k) w O (w.setCell ⟨b, n / 8, none⟩ (.int .u8 ((flipB (l.getD (n / 8) 0) (n % 8)).toNat : Int))) O := fun x t hlt hx ht => ⟨hK.block x hlt (fun e => ht (by rw [e, hOb] at hx; cases hx; rfl)), hx⟩
  have hzl := (List.getElem?_eq_some_iff.1 hz).1
  have hg2 : D.piles.getD z ⟨[], 0⟩ = p := by rw [List.getD_eq_getElem?_getD, hz]; rfl
  have hgl : p.pages.getD k [] = l := by rw [List.getD_eq_getElem?_getD, hk]; rfl
  refine h.change (O' := O) hi hK (fun x t hx ht e => ht (by rw [e, hOb] at hx; cases hx; rfl)) (fun x hx e => by rw [e, hOb] at hx; cases hx) (fun _ _ => rfl) (fun x hx => Nat.lt_of_lt_of_le (h.fresh x hx) hK.size) ⟨g, cs, ?_, h2, ?_, h4, ?_, fun z' p' hz' => ?_⟩ ((h.drv i d D hi).2.rot z k n p hz l hk)
  · simp only [Drv.rot, List.length_set]
    exact h1.move (hK.block d h1.lt (fun e => by rw [e, hOb] at h2; cases h2))
  · exact h3.move (hK.block g h3.lt (fun e => by rw [e, hOb] at h4; cases h4))
  · simp only [Drv.rot, List.length_set]
    exact h5
  · simp only [Drv.rot, hg2] at hz'
    by_cases e : z' = z
    · subst e
      rw [List.getElem?_set_self hzl] at hz'
      cases hz'
      refine ⟨v, c0, c1, vs, hrow.move fun x hx => hK.block x (hrow.ge x hx).2 (fun e => by have := hOr x hx; rw [e, hOb] at this; cases this), hOr, by simp [Pile.rot, hvl], fun k' l' hl' => ?_⟩
      simp only [Pile.rot, hgl] at hl'
      by_cases ek : k' = k
      · subst ek
        rw [List.getElem?_set_self (List.getElem?_eq_some_iff.1 hk).1] at hl'
        cases hl'
        refine ⟨_, hu, ?_, fun x hx => by cases hx; exact hOb⟩
        have := hown.poke (n / 8) (flipB (l.getD (n / 8) 0) (n % 8))
        rw [List.length_set] at this
        exact this
      · rw [List.getElem?_set_ne (fun h => ek h.symm)] at hl'
        obtain ⟨u2, hu2, hat⟩ := hpg k' l' hl'
        exact ⟨u2, hu2, hat.keep hag (by intro e; cases e; exact ek rfl)⟩
    · rw [List.getElem?_set_ne (fun h => e h.symm)] at hz'
      exact (h6 z' p' hz').keep hag (by intro e2; cases e2) (fun k' => by intro e2; cases e2; exact e rfl)

theorem SysPost.drew {w w' : World} {O : Nat → Option Tag} {pw : Nat} {P : Pow} {ds : List (Nat × Drv)} {v : Value} {e : Ending} (h : SysPost w O pw P ds v e w') : SysPost w O pw P ds v e w'.drew := by
  obtain ⟨O', h1, h2, h3⟩ := h
  exact ⟨O', h1, h2.drewN 1, h3.drewN 1⟩
set_option maxRecDepth 20000 in
set_option maxHeartbeats 2000000 in
theorem rot_any (pw i d : Nat) (P : Pow) (ds : List (Nat × Drv)) (D : Drv) (O : Nat → Option Tag) (z k bit : Int) (w : World) (h : SysAt w O pw P ds) (hi : ds[i]? = some (d, D)) (hb : bit ≤ 9223372036854775807) :
    Calls Try.prog 34 #[.pointer (some ⟨d, 0, none⟩), .int .i64 z, .int .i64 k, .int .i64 bit] w (SysPost w O pw P (rotD ds i d D z k bit) (.bool (rotOk D z k))) := by
  obtain ⟨g, cs, h1, h2, h3, h4, h5, h6⟩ := (h.drv i d D hi).1
  have hok := (h.drv i d D hi).2
  have cs1 := h1.cell (i := 1) rfl
  have c3 := h1.cell (i := 3) rfl
  have Hh := Lib.hid (has_any d g D.piles.length z w cs1)
  have stay : rotOk D z k = false → SysPost w O pw P (rotD ds i d D z k bit) (.bool (rotOk D z k)) = SysPost w O pw P ds (.bool false) ∧ SysPost w O pw P ds (.bool false) (.returned (.bool false)) w := by
    intro hr
    refine ⟨by unfold rotD; rw [hr]; rfl, O, rfl, h, Ext.refl _ _⟩
  by_cases hz : 0 ≤ z ∧ z < (D.piles.length : Int)
  case neg =>
    obtain ⟨s1, s2⟩ := stay (by unfold rotOk; simp [hz])
    rw [s1]
    have Hs := Lib.hid s2
    rw [show decide (0 ≤ z ∧ z < (D.piles.length : Int)) = false from decide_eq_false hz] at Hh
    generalize D.piles.length = N at *
    clear s1 s2 stay h1 h2 h3 h4 h5 h6 hok h hi hz
    go_enter Try.func34, Try.ntmps34
    go_wp2_with (go_at_call 52; refine Hh.out.mono ?_; rintro e w1 ⟨rfl, rfl⟩)
    go_ret
    exact Hs.out
  obtain ⟨zn, rfl⟩ : ∃ zn : Nat, z = (zn : Int) := ⟨z.toNat, by omega⟩
  have hzn : zn < D.piles.length := by omega
  have hz' : (zn : Int) < (D.piles.length : Int) := by omega
  rw [show decide (0 ≤ (zn : Int) ∧ (zn : Int) < (D.piles.length : Int)) = true from decide_eq_true hz] at Hh
  obtain ⟨p, hzp⟩ : ∃ p, D.piles[zn]? = some p := ⟨_, List.getElem?_eq_getElem hzn⟩
  have hzo : zoneOf D (zn : Int) = p := by simp [zoneOf, List.getD, hzp]
  obtain ⟨v, e0, e1, vs, hrow, hOr, hvl, hpg⟩ := h6 zn p hzp
  obtain ⟨Ar, cr, rfl, hcr, _, hrd⟩ := hrow.rd
  have hc0 := h3.cell e0
  rw [hvl] at hc0
  have Hp := Lib.hid (pileHas_any g (zn * 2) Ar p.pages.length cr k w hc0)
  by_cases hk : 0 ≤ k ∧ k < (p.pages.length : Int)
  case neg =>
    obtain ⟨s1, s2⟩ := stay (by unfold rotOk; rw [hzo]; simp [hk])
    rw [s1]
    have Hs := Lib.hid s2
    rw [show decide (0 ≤ k ∧ k < (p.pages.length : Int)) = false from decide_eq_false hk] at Hp
    generalize D.piles.length = N at *
    generalize p.pages.length = M at *
    clear s1 s2 stay h1 h2 h3 h4 h5 h6 hok h hi hz hzp hzo e0 e1 hrow hOr hvl hpg hcr hrd hk
    go_enter Try.func34, Try.ntmps34
    go_wp2_with (first
      | (go_at_call 52; refine Hh.out.mono ?_; rintro e w1 ⟨rfl, rfl⟩)
      | (go_at_call 40; refine Hp.out.mono ?_; rintro e w1 ⟨rfl, rfl⟩))
    go_ret
    exact Hs.out
  obtain ⟨kn, rfl⟩ : ∃ kn : Nat, k = (kn : Int) := ⟨k.toNat, by omega⟩
  have hkn : kn < p.pages.length := by omega
  rw [show decide (0 ≤ (kn : Int) ∧ (kn : Int) < (p.pages.length : Int)) = true from decide_eq_true hk] at Hp
  obtain ⟨l, hl⟩ : ∃ l, p.pages[kn]? = some l := ⟨_, List.getElem?_eq_getElem hkn⟩
  have hll : l.length = D.size := hok.sizes p (List.mem_of_getElem? hzp) l (List.mem_of_getElem? hl)
  have hlo := hok.low
  have hhi := hok.high
  obtain ⟨u, hu, hat⟩ := hpg kn l hl
  obtain ⟨b, rfl, _, hcu⟩ := hrd kn u hu
  obtain ⟨bp, cap, rfl, _, _, hcap, hcell, hfz⟩ := hat.1.form (by omega)
  have hOb : O bp = some (.page i zn kn) := hat.2 bp rfl
  have hro : rotOk D (zn : Int) (kn : Int) = true := by unfold rotOk; rw [hzo]; exact decide_eq_true ⟨hz, hk⟩
  obtain ⟨n, hn⟩ : ∃ n, n = rotBit D.size bit := ⟨_, rfl⟩
  have hnb : n < 8 * D.size := by
    rw [hn]
    unfold rotBit
    have := Int.emod_lt_of_pos (max bit 0) (show 0 < 8 * (D.size : Int) by omega)
    have := Int.emod_nonneg (max bit 0) (show 8 * (D.size : Int) ≠ 0 by omega)
    omega
  have hfin := rot_facts (n := n) h hi h1 h2 h3 h4 h5 h6 hzp e0 e1 hrow hOr hvl hpg hl hu hOb hat.1
  have hj : n / 8 < l.length := by omega
  have hx := hcell (n / 8) hj
  have hxf := hfz (n / 8)
  have hgd : l.getD (n / 8) 0 = l[n / 8] := by simp [List.getD, hj]
  rw [hgd] at hfin
  have hfl := flip_val l[n / 8] (n % 8) (Nat.mod_lt _ (by decide))
  have Hfin : Hid (SysPost w O pw P (rotD ds i d D (zn : Int) (kn : Int) bit) (.bool true) (.returned (.bool true)) (w.setCell ⟨bp, n / 8, none⟩ (.int .u8 ((flipB l[n / 8] (n % 8)).toNat : Int)))) := by
    have e9 : rotD ds i d D (zn : Int) (kn : Int) bit = ds.set i (d, D.rot zn kn n) := by unfold rotD; rw [hro, if_pos rfl, ← hn]; rfl
    rw [e9]
    exact ⟨O, rfl, hfin.1, hfin.2⟩
  rw [hro]
  have hzi : (zn : Int) < (D.piles.length : Int) := by omega
  have hki : (kn : Int) < (p.pages.length : Int) := by omega
  have hs1 : (32 : Int) ≤ (D.size : Int) := by omega
  have hs2 : (D.size : Int) ≤ 65536 := by omega
  obtain ⟨j, hjj⟩ : ∃ j, j = n / 8 := ⟨_, rfl⟩
  obtain ⟨m, hmm⟩ : ∃ m, m = n % 8 := ⟨_, rfl⟩
  have hi2 : (n : Int) / 8 = (j : Int) := by omega
  have hi3 : (n : Int) % 8 = (m : Int) := by omega
  have hm8 : m < 8 := by omega
  have hjl : (j : Int) < (D.size : Int) := by omega
  have hnn : n = 0 → j = 0 ∧ m = 0 := by omega
  simp only [← hjj, ← hmm] at hx hxf hfl Hfin
  rw [hll] at hcu hcap
  generalize l[n / 8] = xb at hx hfl Hfin
  generalize l[j] = xb at hx hfl Hfin
  have Hfl := Lib.hid hfl
  generalize D.piles.length = N at *
  generalize p.pages.length = M at *
  clear stay h1 h2 h3 h4 h5 h6 hok h hi hz hzp hzo e0 e1 hrow hOr hvl hpg hcr hrd hk hfin hgd hfl hl hu hat hOb hro hcell hfz hj hll hkn hzn
  have Hn : Hid ((bit < 0 → (n : Int) = 0) ∧ (0 ≤ bit → bit % (8 * (D.size : Int)) = (n : Int))) := by
    refine ⟨fun hb0 => ?_, fun hb1 => ?_⟩
    · rw [hn]; unfold rotBit; rw [show max bit 0 = 0 by omega]; simp
    · rw [hn]
      unfold rotBit
      have := Int.emod_nonneg (max bit 0) (show 8 * (D.size : Int) ≠ 0 by omega)
      rw [show max bit 0 = bit by omega] at this ⊢
      omega
  clear hn hnn hjj hmm
  go_enter Try.func34, Try.ntmps34
  go_upto_region 3 with (first
    | (go_at_call 52; refine Hh.out.mono ?_; rintro e w1 ⟨rfl, rfl⟩)
    | (go_at_call 40; refine Hp.out.mono ?_; rintro e w1 ⟨rfl, rfl⟩))
  go_cut [3] (fun v wx => wx = w ∧ v = .int .i64 (n : Int))
  case first =>
    by_cases hb0 : bit < 0
    · have He : Hid ((0 : Int) = (n : Int)) := (Hn.out.1 hb0).symm
      go_wp2_with fail
      go_meet
      exact ⟨rfl, by rw [← He.out]⟩
    · have hb1 : 0 ≤ bit := by omega
      have He := Lib.hid (Hn.out.2 hb1)
      clear hb0
      go_wp2_with fail
      go_meet
      exact ⟨rfl, by rw [← He.out]⟩
  case rest =>
    obtain ⟨rfl, rfl⟩ := hcut
    go_wp2_with fail
    go_region
    all_goals
      rw [Hfl.out]
      go_wp2_with fail
      go_ret
      exact Hfin.out.drew
end Go.Proofs.Ytdnlikhfemhmeaa

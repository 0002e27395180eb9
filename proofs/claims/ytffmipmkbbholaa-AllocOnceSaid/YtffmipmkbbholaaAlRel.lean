/-
  Release: the map is ranged over in whatever order; the held ones, sorted, are set free.
-/
import Derived.Test.YtffmipmkbbholaaAlSortU
namespace Go.Proofs.Ytffmipmkbbholaa
open Go.RowKit Go.Maps Go.Shelf Go.Lib Go.Sort

/-- just those held ones that are no more to come -/
def HeldSo (g : St) (D Z : Nat) (left : Lit → Bool) (us : List (Int × Int)) : Prop := us.Nodup ∧ us.length ≤ D * Z ∧ ∀ u, u ∈ us ↔ ∃ d z : Nat, d < D ∧ z < Z ∧ u = ((d : Int), (z : Int)) ∧ g d z = 2 ∧ left (uk d z) = false
/-- a list of unlike units of a table is no longer than the table -/
theorem units_len {D Z : Nat} (hZ : 0 < Z) : ∀ (us : List (Int × Int)), us.Nodup → (∀ u ∈ us, ∃ d z : Nat, d < D ∧ z < Z ∧ u = ((d : Int), (z : Int))) → us.length ≤ D * Z := by
  intro us hn hm
  have h1 : (us.map fun u => u.1.toNat * Z + u.2.toNat).Nodup := by
    refine List.pairwise_map.2 (hn.imp_of_mem ?_)
    intro a b ha hb hne e
    obtain ⟨d, z, hd, hz, rfl⟩ := hm a ha
    obtain ⟨d', z', hd', hz', rfl⟩ := hm b hb
    simp only [Int.toNat_natCast] at e
    have e1 : (d * Z + z) / Z = (d' * Z + z') / Z := by rw [e]
    rw [Nat.mul_comm d, Nat.mul_comm d', Nat.mul_add_div hZ, Nat.mul_add_div hZ, Nat.div_eq_of_lt hz, Nat.div_eq_of_lt hz'] at e1
    have e2 : d = d' := by omega
    subst e2
    have e3 : z = z' := by omega
    subst e3
    exact hne rfl
  have h2 : ∀ k ∈ (us.map fun u => u.1.toNat * Z + u.2.toNat), k < D * Z := by
    intro k hk
    obtain ⟨u, hu, rfl⟩ := List.mem_map.1 hk
    obtain ⟨d, z, hd, hz, rfl⟩ := hm u hu
    simp only [Int.toNat_natCast]
    have h1 : (d + 1) * Z ≤ D * Z := Nat.mul_le_mul_right Z (by omega)
    rw [Nat.add_mul, Nat.one_mul] at h1
    omega
  have h3 := sum_inL _ (D * Z) h1 h2
  have h4 : sumN (inL (us.map fun u => u.1.toNat * Z + u.2.toNat)) (D * Z) ≤ sumN (fun _ => 1) (D * Z) := sumN_le _ fun k _ => by unfold inL; split <;> omega
  rw [sumN_const, h3, List.length_map] at h4
  omega
section
variable {g : St} {D Z : Nat} {left : Lit → Bool} {us : List (Int × Int)}
theorem left_struck {d z d' z' : Nat} (hd : d < 1000000) (hz : z < 1000000) (hd' : d' < 1000000) (hz' : z' < 1000000) :
    (left (uk d' z') && !(uk d' z').sameKey (uk d z)) = false ↔ (left (uk d' z') = false ∨ (d' = d ∧ z' = z)) := by
  by_cases q : d' = d ∧ z' = z
  · obtain ⟨rfl, rfl⟩ := q
    rw [WideAt.sameKey_self (keyLit hd hz)]
    simp
  · have : (uk d' z').sameKey (uk d z) = false := by
      cases h : (uk d' z').sameKey (uk d z) with
      | false => rfl
      | true => exact absurd (WideAt.sameKey_eq h) (uk_ne hd hz hd' hz' q)
    rw [this]
    simp [q]
theorem HeldSo.stay (h : HeldSo g D Z left us) {d z : Nat} (hd : d < 1000000) (hz : z < 1000000) (hD : D ≤ 1000) (hZ : Z ≤ 10000) (hg : g d z ≠ 2) : HeldSo g D Z (fun k => left k && !k.sameKey (uk d z)) us := by
  refine ⟨h.1, h.2.1, fun u => (h.2.2 u).trans ⟨?_, ?_⟩⟩
  · rintro ⟨d', z', h1, h2, h3, h4, h5⟩
    exact ⟨d', z', h1, h2, h3, h4, (left_struck hd hz (by omega) (by omega)).2 (.inl h5)⟩
  · rintro ⟨d', z', h1, h2, h3, h4, h5⟩
    refine ⟨d', z', h1, h2, h3, h4, ?_⟩
    rcases (left_struck hd hz (by omega) (by omega)).1 h5 with h | ⟨rfl, rfl⟩
    · exact h
    · exact absurd h4 hg
theorem HeldSo.put (h : HeldSo g D Z left us) {d z : Nat} (hd : d < D) (hz : z < Z) (hD : D ≤ 1000) (hZ : Z ≤ 10000) (hg : g d z = 2) (hl : left (uk d z) = true) : HeldSo g D Z (fun k => left k && !k.sameKey (uk d z)) (us ++ [((d : Int), (z : Int))]) := by
  have hnot : ((d : Int), (z : Int)) ∉ us := fun q => by
    obtain ⟨d', z', h1, h2, h3, h4, h5⟩ := (h.2.2 _).1 q
    have e1 : d = d' := by have := congrArg Prod.fst h3; simp at this; omega
    have e2 : z = z' := by have := congrArg Prod.snd h3; simp at this; omega
    subst e1; subst e2
    rw [hl] at h5
    cases h5
  have hm : ∀ u, u ∈ us ++ [((d : Int), (z : Int))] ↔ ∃ d' z' : Nat, d' < D ∧ z' < Z ∧ u = ((d' : Int), (z' : Int)) ∧ g d' z' = 2 ∧ (left (uk d' z') && !(uk d' z').sameKey (uk d z)) = false := fun u => by
    rw [List.mem_append, h.2.2 u]
    constructor
    · rintro (⟨d', z', h1, h2, h3, h4, h5⟩ | h6)
      · exact ⟨d', z', h1, h2, h3, h4, (left_struck (by omega) (by omega) (by omega) (by omega)).2 (.inl h5)⟩
      · exact ⟨d, z, hd, hz, by simpa using h6, hg, (left_struck (by omega) (by omega) (by omega) (by omega)).2 (.inr ⟨rfl, rfl⟩)⟩
    · rintro ⟨d', z', h1, h2, h3, h4, h5⟩
      rcases (left_struck (by omega) (by omega) (by omega) (by omega)).1 h5 with h | ⟨rfl, rfl⟩
      · exact .inl ⟨d', z', h1, h2, h3, h4, h⟩
      · exact .inr (by simp [h3])
  have hn : (us ++ [((d : Int), (z : Int))]).Nodup := by
    rw [List.nodup_append]
    refine ⟨h.1, by simp, fun a ha b hb e => ?_⟩
    simp at hb
    subst hb
    exact hnot (e ▸ ha)
  exact ⟨hn, units_len (by omega) _ hn (fun u hu => by obtain ⟨d', z', h1, h2, h3, _⟩ := (hm u).1 hu; exact ⟨d', z', h1, h2, h3⟩), hm⟩
end

/-- sorted -/
def SortedU (us : List (Int × Int)) : Prop := us.Pairwise (fun a b => ¬ cfU b a < 0)
/-- the range is under way -/
structure RelSt (w wr : World) (mb D Z : Nat) (g : St) (Dm : DataW Unit) (left : Lit → Bool) (cnt : Nat) (v : Value) (us : List (Int × Int)) : Prop where
  rg : wr.ranges Try.prog 24 (plainElem Try.prog 3) mb w.heap.size (Maps.size Dm) Dm left cnt
  own : OwnU wr (w.heap.size + 1) v us
  bel : Below w.heap.size w wr
  held : HeldSo g D Z left us
  sub : ∀ kl, left kl = true → Maps.has Dm kl = true
section
set_option maxRecDepth 100000
set_option maxHeartbeats 8000000
variable {w : World} {tb db mb cap D Z : Nat} {g : St}
theorem sortV_any {base : Nat} {us : List (Int × Int)} (A : Option Addr) (c n : Nat) (hn : n = us.length) (h : OwnU w base (.slice A n c) us) (hsz : n ≤ 1000000) :
    Calls Try.prog 40 #[.slice A n c, .func (.func 41) #[] #[]] w fun e w' => e = .returned (.tuple #[]) ∧ ∃ us', us'.Perm us ∧ SortedU us' ∧ RU w' w'.heap.size A us' ∧ (∀ b o, A = some ⟨b, o, none⟩ → us' ≠ [] → base ≤ b) ∧ Below base w w' := by
  by_cases h0 : us = []
  · subst h0
    simp at hn
    subst hn
    refine (AnyF.slices_SortFunc_none (ρ := laySortU_ren) laySortU A c _ w).mono ?_
    rintro e w' ⟨he, rfl⟩
    exact ⟨he, [], List.Perm.refl _, List.Pairwise.nil, fun k u hu => by simp at hu, fun b o _ q => absurd rfl q, Below.refl _ _⟩
  · obtain ⟨gb, c', hv, hc, hb, hlt, hcell⟩ := h.flat h0
    cases hv
    refine (sortU_any c us.length rfl hcell (fun i => OwnU.frozen h i) hlt hsz).mono ?_
    rintro e w' ⟨he, us', hp, hs, hh, hk⟩
    have hle : base ≤ w.heap.size := by omega
    refine ⟨he, us', hp, hs, fun k u hu => ⟨gb, 0, rfl, by have := hk.size; omega, ?_, ?_⟩, fun b o q _ => by cases q; exact hb, hk.to_below (fun k hk' e => by omega) hle⟩
    · rw [Nat.zero_add]; exact (hh k u hu).1
    · rw [Nat.zero_add]; exact (hh k u hu).2
theorem release_any (h : TabAt w tb db mb cap D Z g) :
    Calls Try.prog 17 #[.pointer (some ⟨tb, 0, none⟩)] w fun e w' => ∃ (A : Option Addr) (c : Nat) (us : List (Int × Int)), e = .returned (.slice A us.length c) ∧ HeldSo g D Z (fun _ => false) us ∧ SortedU us ∧ TabAt w' tb db mb cap D Z (setAll g 0 us) ∧ Kept (fun x => x ≠ db ∧ x ≠ mb) w w' ∧ RU w' w'.heap.size A us ∧ (∀ b o, A = some ⟨b, o, none⟩ → us ≠ [] → w.heap.size ≤ b) := by
  obtain ⟨Dm, hown, hv⟩ := h.mc
  have m2 := h.m2
  have hD : D ≤ 1000 := by have := h.d2; omega
  have hZ : Z ≤ 10000 := by have := h.z2; omega
  have H0 := Lib.hid h
  have Hv := Lib.hid hv
  clear h hv
  go_enter Try.func17, Try.ntmps17
  go_wp2_with (at_range; refine wpList_range_own _ rfl _ 58 rfl 24 3 keyLaw Try.underlying58 _ mb _ Dm rfl hown ?_; intro w0 hrg0 hg0 hs0; clear hown)
  go_frame
  have Hst : Hid (RelSt w w0 mb D Z g Dm (Maps.has Dm) (Maps.size Dm) (.slice none 0 0) []) := by
    refine ⟨hrg0, OwnU.nil _ _, (Below.refl _ _).grown hg0 (Nat.le_refl _) (fun k hk => by cases hk), ⟨List.Pairwise.nil, by simp, fun u => ⟨fun q => by simp at q, ?_⟩⟩, fun _ h => h⟩
    rintro ⟨d, z, h1, h2, h3, h4, h5⟩
    rw [Hv.out.has d z (by omega) (by omega)] at h5
    simp [stU, h4] at h5
  clear hrg0 hg0 hs0
  go_loopw [3] (fun sv wr => ∃ (left : Lit → Bool) (cnt : Nat) (us : List (Int × Int)), Hid (RelSt w wr mb D Z g Dm left cnt sv us)) (fun _ wr => wr.rangeLeft mb w.heap.size)
  case atStart => exact ⟨_, _, _, Hst.out⟩
  case round =>
    obtain ⟨left, cnt, us, hS⟩ := hrel
    obtain ⟨v, hv⟩ : ∃ v, v = u3 := ⟨_, rfl⟩
    rw [← hv] at hS ⊢
    clear hv Hst
    go_wp2_with (at_next; refine wpList_next_ranges _ rfl _ rfl 24 keyLaw (plainElem Try.prog 3) (fun x : Value => x) (Value.int .i64) (fun key kl _ => ⟨key, rfl⟩) (fun v y hv => by obtain ⟨c, rfl, _⟩ := plainElem_int_inv Try.underlying3 hv; exact ⟨c, rfl⟩) mb w.heap.size _ Dm left cnt rfl hS.out.rg ?_ ?_)
    · as_aux_lemma =>
      intro _ hl0
      have hheld : HeldSo g D Z (fun _ => false) us := by
        have h := hS.out.held
        have e : left = fun _ => false := funext hl0
        rw [e] at h
        exact h
      obtain ⟨A, c, hvA, hc, _, _⟩ := hS.out.own.rd
      have hDZ : D * Z ≤ 32 * 4096 := Nat.mul_le_mul H0.out.d2 H0.out.z2
      have hus := hheld.2.1
      obtain ⟨n, hn⟩ : ∃ n, n = us.length := ⟨_, rfl⟩
      rw [← hn] at hvA
      have hown := hS.out.own
      rw [hvA] at hown
      have Hsr := Lib.hid (sortV_any A c n hn hown (by omega))
      have hn1 : (n : Int) ≤ 131072 := by omega
      have Hh := Lib.hid hheld
      have Hb := Lib.hid hS.out.bel
      have Hn := Lib.hid hn
      subst hvA
      clear hS hheld hown hc hus hn hDZ hl0
      go_wp2_with fail
      refine Hsr.out.mono ?_
      rintro e w3 ⟨rfl, us', hp, hs, hr, hA, hb3⟩
      have hb : Below w.heap.size w w3 := Hb.out.trans (hb3.mono (Nat.le_succ _))
      have hpl := hp.length_eq
      have Hu : Hid (∀ (i : Nat) u, us'[i]? = some u → ∃ d z : Nat, u = ((d : Int), (z : Int)) ∧ d < D ∧ z < Z) := fun i u hu => by
        obtain ⟨d, z, h1, h2, h3, _⟩ := (Hh.out.2.2 u).1 (hp.mem_iff.1 (List.mem_of_getElem? hu))
        exact ⟨d, z, h3, h1, h2⟩
      have Hheld : Hid (HeldSo g D Z (fun _ => false) us' ∧ SortedU us') := ⟨⟨hp.nodup_iff.2 Hh.out.1, by have := Hh.out.2.1; omega, fun u => (hp.mem_iff).trans (Hh.out.2.2 u)⟩, hs⟩
      have hn' : n = us'.length := by have := Hn.out; omega
      have H3 : Hid (TabAt w3 tb db mb cap D Z (setAll g 0 (us'.take 0)) ∧ Kept (fun x => x ≠ db ∧ x ≠ mb) w w3) := ⟨H0.out.below hb, (Kept.refl _ _).below hb⟩
      have Hr := Lib.hid hr
      have HA : Hid (∀ b o, A = some ⟨b, o, none⟩ → us' ≠ [] → w.heap.size + 1 ≤ b) := hA
      have Hn2 := Lib.hid hn'
      have Hsz : Hid (w.heap.size ≤ w3.heap.size ∧ db < w.heap.size ∧ mb < w.heap.size) := ⟨hb.size, H0.out.dc.lt, H0.out.mc.lt⟩
      clear hp hs hr hA hb3 hb hpl hn' Hsr Hh Hb Hn
      go_wp2_with fail
      go_loopw [28] (fun iv wr => ∃ i : Nat, iv = .int .i64 (i : Int) ∧ i ≤ n ∧ Hid (TabAt wr tb db mb cap D Z (setAll g 0 (us'.take i)) ∧ Kept (fun x => x ≠ db ∧ x ≠ mb) w wr ∧ Kept (fun x => x ≠ db ∧ x ≠ mb) w3 wr)) (fun iv _ => n - (intOf iv).toNat)
      case atStart => exact ⟨0, rfl, Nat.zero_le _, H3.out.1, H3.out.2, Kept.refl _ _⟩
      case round =>
        clear H3
        obtain ⟨i, rfl, hi, hS⟩ := hrel
        by_cases hlt : i < n
        · have hil : i < us'.length := by have := Hn2.out; omega
          obtain ⟨u, hu⟩ : ∃ u, us'[i]? = some u := ⟨_, List.getElem?_eq_getElem hil⟩
          obtain ⟨d, z, rfl, hd, hz⟩ := Hu.out i u hu
          obtain ⟨b, o, rfl, hblt, c0, c1⟩ := (Hr.out.move (w' := wr) (fun b o e => hS.out.2.2.block b (by
            obtain ⟨b', o', e', hlt', _⟩ := Hr.out i _ hu
            rw [e'] at e; cases e; exact hlt') (by
            have := HA.out b o e (by intro q; rw [q] at hu; simp at hu)
            have := Hsz.out
            exact ⟨by omega, by omega⟩))) i _ hu
          simp only [] at c0 c1
          have hlt' : (i : Int) < (n : Int) := by omega
          have Hput := Lib.hid fun o => put_any d z 0 hd hz (by omega) (hS.out.1.alloc o)
          unfold uV at Hput
          have Hnx : Hid (upd (setAll g 0 (us'.take i)) d z 0 = setAll g 0 (us'.take (i + 1))) := by
            rw [List.take_add_one, hu]
            show _ = setAll g 0 (us'.take i ++ [((d : Int), (z : Int))])
            rw [setAll_snoc]
            simp
          have Hkp := Lib.hid hS.out.2
          clear hu hlt hS hil hblt
          go_wp2_with fail
          refine (Hput.out _).mono ?_
          rintro e w4 ⟨rfl, h4⟩
          have H4 : Hid (TabAt w4 tb db mb cap D Z (setAll g 0 (us'.take (i + 1))) ∧ Kept (fun y => y ≠ db ∧ y ≠ mb) w w4 ∧ Kept (fun y => y ≠ db ∧ y ≠ mb) w3 w4) := ⟨Hnx.out ▸ h4.1, (Hkp.out.1.alloc _).trans h4.2, (Hkp.out.2.alloc _).trans h4.2⟩
          clear h4 Hkp Hput c0 c1
          go_wp2_with fail
          go_roundw
          case rel => exact ⟨i + 1, by go_num, by omega, H4.out⟩
          case measure => simp [intOf]; omega
        · obtain rfl : i = n := by omega
          have Hfin : Hid (∃ (A' : Option Addr) (c' : Nat) (us : List (Int × Int)), Ending.returned (.slice A i c) = .returned (.slice A' us.length c') ∧ HeldSo g D Z (fun _ => false) us ∧ SortedU us ∧ TabAt wr tb db mb cap D Z (setAll g 0 us) ∧ Kept (fun x => x ≠ db ∧ x ≠ mb) w wr ∧ RU wr wr.heap.size A' us ∧ (∀ b o, A' = some ⟨b, o, none⟩ → us ≠ [] → w.heap.size ≤ b)) := by
            refine ⟨A, c, us', by rw [Hn2.out], Hheld.out.1, Hheld.out.2, ?_, hS.out.2.1, ?_, fun b o e q => by have := HA.out b o e q; omega⟩
            · have := hS.out.1
              rw [List.take_of_length_le (by have := Hn2.out; omega)] at this
              exact this
            · intro k u hu
              obtain ⟨b, o, rfl, hblt, c0, c1⟩ := Hr.out k u hu
              have hne := HA.out b o rfl (by intro q; rw [q] at hu; simp at hu)
              have hk := hS.out.2.2.block b hblt (by have := Hsz.out; exact ⟨by omega, by omega⟩)
              exact ⟨b, o, rfl, by have := hS.out.2.2.size; omega, (World.cell?_of_block hk).trans c0, (World.cell?_of_block hk).trans c1⟩
          clear hS hlt
          go_wp2_with fail
          go_ret
          exact Hfin.out
    · as_aux_lemma =>
      intro x c kl y ps w1 cnt1 hkey hlk hR hat hrg1 hlt hg1 hs1 hen
      obtain ⟨d, z, hd, hz, rfl⟩ := Hv.out.only kl (hS.out.sub kl hlk)
      obtain rfl : x = uV d z := keyLaw.inj hkey (keyN (by omega) (by omega))
      obtain ⟨c', hc', hy, _⟩ := plainElem_int_inv Try.underlying3 hR
      cases hc'
      have hcz : c = (g d z : Nat) := by
        have h1 := hS.out.sub _ hlk
        rw [Hv.out.has d z (by omega) (by omega)] at h1
        have h2 := hat (.lit (.int .i64 0))
        rw [Hv.out.atk d z (by omega) (by omega), (Prod.mk.inj hy).1] at h2
        rw [stU_get] at h2
        simp at h2
        omega
      have hD32 : d ≤ 1000 := by omega
      have Hdz := Lib.hid (And.intro hd hz)
      have hcv : c = ((g d z : Nat) : Int) := hcz
      have hown1 : OwnU w1 (w.heap.size + 1) v us := hS.out.own.move (fun k hk => hg1.block k (hS.out.own.ge k hk).2 (fun e => by have := (hS.out.own.ge k hk).1; cases e; omega))
      have hbel1 : Below w.heap.size w w1 := hS.out.bel.grown hg1 hS.out.bel.size (fun k hk => by cases hk; exact Nat.le_refl _)
      have hsub1 : ∀ k, (left k && !k.sameKey (uk d z)) = true → Maps.has Dm k = true := fun k hk => hS.out.sub k (by simp at hk; exact hk.1)
      have hrlt := hrg1.lt
      by_cases h2 : g d z = 2
      · obtain rfl : c = 2 := by omega
        have Hn : Hid (∀ w2 w3 v3, w2 = w1.alloc (.cells #[.int .i64 (d : Int), .int .i64 (z : Int)] 24) → OwnU w3 (w.heap.size + 1) v3 (us ++ [((d : Int), (z : Int))]) → (w2.alloc (.cells #[.int .i64 (d : Int), .int .i64 (z : Int)] 24)).grownBy w3 v.ownBlock → RelSt w w3 mb D Z g Dm (fun q => left q && !q.sameKey (uk d z)) cnt1 v3 (us ++ [((d : Int), (z : Int))])) := by
          intro w2 w3 v3 e ho hg
          subst e
          have hb2 : Below w.heap.size w ((w1.alloc (.cells #[.int .i64 (d : Int), .int .i64 (z : Int)] 24)).alloc (.cells #[.int .i64 (d : Int), .int .i64 (z : Int)] 24)) := (hbel1.alloc hbel1.size _).alloc (hbel1.alloc hbel1.size _).size _
          refine ⟨((hrg1.alloc _).alloc _).kept hg (fun e => ?_) (fun e => ?_), ho, hb2.grown hg hb2.size (fun k hk => by have := (hown1.ge k hk).1; omega), hS.out.held.put hd hz hD hZ h2 hlk, hsub1⟩
          · have := (hown1.ge mb e.symm).1
            have := H0.out.mc.lt
            omega
          · have := (hown1.ge w.heap.size e.symm).1
            omega
        have Hm : Hid (cnt1 < cnt ∧ wr.rangeLeft mb w.heap.size = cnt) := ⟨hlt, hS.out.rg.left_eq⟩
        have Ho : Hid (OwnU w1 (w.heap.size + 1) v us ∧ us.length ≤ 131072 ∧ w.heap.size + 1 ≤ w1.heap.size) := ⟨hown1, by
          have := hS.out.held.2.1
          have : D * Z ≤ 32 * 4096 := Nat.mul_le_mul H0.out.d2 H0.out.z2
          omega, by omega⟩
        clear hS hkey hlk hR hat hrg1 hlt hg1 hs1 hy hcz hcv hown1 hbel1 hsub1 hrlt hd hz h2
        unfold uV at hen ⊢
        have Kk : Hid (Cells ((w1.alloc (.cells #[.int .i64 (d : Int), .int .i64 (z : Int)] 24)).alloc (.cells #[.int .i64 (d : Int), .int .i64 (z : Int)] 24)) (w1.heap.size + 1) 24 [.int .i64 (d : Int), .int .i64 (z : Int)]) := by
          have e1 : (w1.alloc (.cells #[.int .i64 (d : Int), .int .i64 (z : Int)] 24)).heap.size = w1.heap.size + 1 := by simp
          show Cells _ _ _ _
          rw [← e1]
          exact Cells.new _ _ _
        go_wp2_with (at_builtin; go_must (refine app_unit rfl (.tmp 20) (.tmp 22) rfl rfl (OwnU.alloc (OwnU.alloc Ho.out.1 _) _) (w1.heap.size + 1) 1 (d : Int) (z : Int) rfl (Kk.out.cell rfl) (Kk.out.cell rfl) (by have := Ho.out.2.1; omega) (by have := Ho.out.2.2; simp; omega) ?_); intro v3 w3 ho3 hg3 _; have H3 := Lib.hid (Hn.out _ w3 v3 rfl ho3 hg3); clear ho3 hg3 Hn)
        go_roundw
        case rel => exact ⟨_, cnt1, _, H3.out⟩
        case measure => rw [H3.out.rg.left_eq, Hm.out.2]; exact Hm.out.1
      · have hc2 : ¬ ((g d z : Nat) : Int) = 2 := by omega
        have Hn : Hid (RelSt w (w1.alloc (.cells #[.int .i64 (d : Int), .int .i64 (z : Int)] 24)) mb D Z g Dm (fun q => left q && !q.sameKey (uk d z)) cnt1 v us) :=
          ⟨hrg1.alloc _, hown1.alloc _, hbel1.alloc hbel1.size _, hS.out.held.stay (by omega) (by omega) hD hZ h2, hsub1⟩
        have Hm : Hid (cnt1 < cnt ∧ wr.rangeLeft mb w.heap.size = cnt) := ⟨hlt, hS.out.rg.left_eq⟩
        subst hcv
        clear hS hkey hlk hR hat hrg1 hlt hg1 hs1 hy hcz hown1 hbel1 hsub1 hrlt hd hz h2
        generalize g d z = s at *
        unfold uV at hen ⊢
        go_wp2_with fail
        go_roundw
        case rel => exact ⟨_, cnt1, us, Hn.out⟩
        case measure => rw [Hn.out.rg.left_eq, Hm.out.2]; exact Hm.out.1
end
end Go.Proofs.Ytffmipmkbbholaa

/-
  What Fix, Resize, Alone, Drop, Make do, plain: the list behind them, the map behind them, and that it stays in order.
-/
import Derived.Test.YtejimgjonhaocaaMe4
namespace Go.Proofs.Ytejimgjonhaocaa
open Go.RowKit Go.Maps Go.Lib

def gFix (m : Md) : Md := { m with fixed := true }
def gRes (s : Nat) (m : Md) : Md := { m with size := s }
def gAlone (m : Md) : Md := { m with tgt := 0, off := 0 }
theorem gAlone_id (m : Md) : (gAlone m).id = m.id := rfl
theorem gAlone_tgt (m : Md) : (gAlone m).tgt = 0 := rfl
def fixL (L : List Md) (n : Nat) : List Md := chg L n gFix
def resL (L : List Md) (n s : Nat) : List Md := chg L n (gRes s)
def aloneL (L : List Md) (n : Nat) : List Md := chg L n gAlone
def dropL (L : List Md) (n : Nat) : List Md := L.filter fun m => m.id != n
def mkL (L : List Md) (id t off size : Nat) : List Md := L ++ [⟨id, t, off, size, false⟩]

theorem chg_none {g : Md → Md} {L : List Md} {n : Nat} (h : look L n = none) : chg L n g = L := by
  unfold chg
  rw [look_none] at h
  induction L with
  | nil => rfl
  | cons a L ih =>
    rw [List.map_cons, if_neg (h a (.head _)), ih fun m hm => h m (.tail _ hm)]
theorem dropL_none {L : List Md} {n : Nat} (h : look L n = none) : dropL L n = L := by
  unfold dropL
  rw [look_none] at h
  exact List.filter_eq_self.2 fun m hm => by simpa using h m hm
theorem look_drop (L : List Md) (n k : Nat) : look (dropL L n) k = if k = n then none else look L k := by
  induction L with
  | nil => unfold look dropL; simp
  | cons a L ih =>
    unfold dropL at *
    by_cases h : a.id = n
    · rw [List.filter_cons_of_neg (by simp [h]), ih]
      by_cases hk : k = n
      · simp [hk]
      · simp only [if_neg hk]
        unfold look
        rw [List.find?_cons, show (a.id == k) = false by simp; omega]
    · rw [List.filter_cons_of_pos (by simpa using h)]
      by_cases hk : a.id = k
      · unfold look
        rw [List.find?_cons, List.find?_cons, if_neg (by omega)]
        simp [hk]
      · unfold look at *
        rw [List.find?_cons, List.find?_cons, show (a.id == k) = false by simpa using hk]
        exact ih
/-- how many have a number for their target, where one medium turns -/
theorem ups_chg {g : Md → Md} {L : List Md} (hr : L.Pairwise (fun a b => a.id < b.id)) {n : Nat} {m : Md} (h : look L n = some m) (k : Nat) :
    ups (chg L n g) k + (if m.tgt = k then 1 else 0) = ups L k + (if (g m).tgt = k then 1 else 0) := by
  induction L with
  | nil => unfold look at h; simp at h
  | cons a L ih =>
    have hr2 := (List.pairwise_cons.1 hr).2
    have hc : chg (a :: L) n g = (if a.id = n then g a else a) :: chg L n g := rfl
    rw [hc]
    have hu : ∀ (b : Md) (K : List Md), ups (b :: K) k = ups K k + (if b.tgt = k then 1 else 0) := fun b K => by unfold ups; rw [List.countP_cons]; simp
    rw [hu, hu]
    by_cases ha : a.id = n
    · have e : a = m := by
        unfold look at h
        rw [List.find?_cons, show (a.id == n) = true by simpa using ha] at h
        exact Option.some.inj h
      subst e
      have hn : look L n = none := look_none.2 fun x hx e => by have := (List.pairwise_cons.1 hr).1 x hx; omega
      rw [if_pos ha, chg_none hn]
      omega
    · have h' : look L n = some m := by
        unfold look at h ⊢
        rw [List.find?_cons, show (a.id == n) = false by simpa using ha] at h
        exact h
      have := ih hr2 h'
      rw [if_neg ha]
      omega
theorem ups_drop {L : List Md} (hr : L.Pairwise (fun a b => a.id < b.id)) {n : Nat} {m : Md} (h : look L n = some m) (k : Nat) :
    ups (dropL L n) k + (if m.tgt = k then 1 else 0) = ups L k := by
  induction L with
  | nil => unfold look at h; simp at h
  | cons a L ih =>
    have hr2 := (List.pairwise_cons.1 hr).2
    have hu : ∀ (b : Md) (K : List Md), ups (b :: K) k = ups K k + (if b.tgt = k then 1 else 0) := fun b K => by unfold ups; rw [List.countP_cons]; simp
    by_cases ha : a.id = n
    · have e : a = m := by
        unfold look at h
        rw [List.find?_cons, show (a.id == n) = true by simpa using ha] at h
        exact Option.some.inj h
      subst e
      have hn : look L n = none := look_none.2 fun x hx e => by have := (List.pairwise_cons.1 hr).1 x hx; omega
      have e2 : dropL (a :: L) n = L := by
        have := dropL_none hn
        unfold dropL at *
        rw [List.filter_cons_of_neg (by simp [ha]), this]
      rw [e2, hu]
    · have h' : look L n = some m := by
        unfold look at h ⊢
        rw [List.find?_cons, show (a.id == n) = false by simpa using ha] at h
        exact h
      have := ih hr2 h'
      have e2 : dropL (a :: L) n = a :: dropL L n := by unfold dropL; rw [List.filter_cons_of_pos (by simpa using ha)]
      rw [e2, hu, hu]
      omega

/-! the map behind each -/
section
variable {dep nxt : Nat} {L : List Md}
theorem rowG_some {n : Nat} {m : Md} (h : look L n = some m) : rowG L n = some (rowV m (ups L n : Nat)) := by unfold rowG; rw [h]; rfl
theorem rowG_none {n : Nat} (h : look L n = none) : rowG L n = none := by unfold rowG; rw [h]; rfl
/-- a turn of one medium that keeps its target -/
theorem rowG_chg {g : Md → Md} (hg : ∀ m, (g m).id = m.id) (ht : ∀ m, (g m).tgt = m.tgt) {n : Nat} {m : Md} (h : look L n = some m) : rowG (chg L n g) = updG (rowG L) n (some (rowV (g m) (ups L n : Nat))) := by
  funext k
  by_cases hk : k = n
  · subst hk
    rw [updG_same]
    unfold rowG
    rw [look_chg hg, h, ups_chg_same ht]
    simp
  · rw [updG_other _ _ hk]
    unfold rowG
    rw [look_chg hg, ups_chg_same ht]
    simp [hk]
theorem rowG_alone (ho : Ok dep nxt L) {n : Nat} {m u : Md} (h : look L n = some m) (hu : look L m.tgt = some u) :
    rowG (aloneL L n) = updG (updG (rowG L) m.tgt (some (rowV u ((ups L m.tgt : Nat) + (-1))))) n (some (rowV (gAlone m) (ups L n : Nat))) := by
  have hc := ups_chg (g := gAlone) ho.rise h
  have hm := look_mem h
  have hlt := ho.down m hm.1
  have h0 : m.tgt ≠ 0 := fun e => by rw [e, ho.look_zero] at hu; cases hu
  funext k
  unfold aloneL
  by_cases hk : k = n
  · subst hk
    rw [updG_same]
    unfold rowG
    rw [look_chg gAlone_id, h]
    have := hc k
    rw [if_neg (by omega), if_neg (by rw [gAlone_tgt]; have := ho.lo m hm.1; omega)] at this
    simp only [Nat.add_zero] at this
    simp [this]
  · rw [updG_other _ _ hk]
    by_cases hk2 : k = m.tgt
    · subst hk2
      rw [updG_same]
      unfold rowG
      rw [look_chg gAlone_id, hu]
      have := hc m.tgt
      rw [if_pos rfl, if_neg (by rw [gAlone_tgt]; omega)] at this
      simp only [Option.map_some, if_neg hk]
      congr 2
      omega
    · rw [updG_other _ _ hk2]
      unfold rowG
      rw [look_chg gAlone_id]
      by_cases hk0 : k = 0
      · subst hk0; rw [ho.look_zero]; rfl
      · have := hc k
        rw [if_neg (by omega), if_neg (by rw [gAlone_tgt]; omega)] at this
        simp only [Nat.add_zero] at this
        rw [this]
        simp [hk]
theorem rowG_alone0 (ho : Ok dep nxt L) {n : Nat} {m : Md} (h : look L n = some m) (hu : look L m.tgt = none) :
    rowG (aloneL L n) = updG (rowG L) n (some (rowV (gAlone m) (ups L n : Nat))) := by
  have hm := look_mem h
  have h0 : m.tgt = 0 := by
    rcases Nat.eq_zero_or_pos m.tgt with e | e
    · exact e
    · obtain ⟨u, e2, _⟩ := ho.under m hm.1 (by omega); rw [hu] at e2; cases e2
  have hc := ups_chg (g := gAlone) ho.rise h
  funext k
  unfold aloneL
  have := hc k
  rw [h0, gAlone_tgt] at this
  simp only [Nat.add_right_cancel_iff] at this
  unfold rowG
  rw [look_chg gAlone_id, this]
  by_cases hk : k = n
  · subst hk; rw [updG_same, h]; simp
  · rw [updG_other _ _ hk]; simp [hk]
theorem rowG_drop (ho : Ok dep nxt L) {n : Nat} {m u : Md} (h : look L n = some m) (hu : look L m.tgt = some u) :
    rowG (dropL L n) = updG (updG (rowG L) m.tgt (some (rowV u ((ups L m.tgt : Nat) + (-1))))) n none := by
  have hc := ups_drop ho.rise h
  have hm := look_mem h
  have hlt := ho.down m hm.1
  funext k
  by_cases hk : k = n
  · subst hk
    rw [updG_same]
    unfold rowG
    rw [look_drop, if_pos rfl]; rfl
  · rw [updG_other _ _ hk]
    unfold rowG
    rw [look_drop, if_neg hk]
    by_cases hk2 : k = m.tgt
    · subst hk2
      rw [updG_same, hu]
      have := hc m.tgt
      rw [if_pos rfl] at this
      simp only [Option.map_some]
      congr 2
      omega
    · rw [updG_other _ _ hk2]
      have := hc k
      rw [if_neg (by omega)] at this
      simp only [Nat.add_zero] at this
      rw [this]
theorem rowG_drop0 (ho : Ok dep nxt L) {n : Nat} {m : Md} (h : look L n = some m) (hu : look L m.tgt = none) : rowG (dropL L n) = updG (rowG L) n none := by
  have hc := ups_drop ho.rise h
  funext k
  by_cases hk : k = n
  · subst hk
    rw [updG_same]
    unfold rowG
    rw [look_drop, if_pos rfl]; rfl
  · rw [updG_other _ _ hk]
    unfold rowG
    rw [look_drop, if_neg hk]
    by_cases hk2 : k = m.tgt
    · subst hk2; rw [hu]; rfl
    · have := hc k
      rw [if_neg (by omega)] at this
      simp only [Nat.add_zero] at this
      rw [this]
theorem look_mk (ho : Ok dep nxt L) (t off size k : Nat) : look (mkL L nxt t off size) k = if k = nxt then some ⟨nxt, t, off, size, false⟩ else look L k := by
  unfold mkL
  rw [look_append, look_one]
  by_cases hk : k = nxt
  · subst hk
    rw [look_none.2 fun m hm e => by have := ho.hi m hm; omega]
    simp
  · rw [if_neg (by show ¬ nxt = k; omega), if_neg hk, Option.or_none]
theorem ups_mk (t off size k : Nat) : ups (mkL L nxt t off size) k = ups L k + (if t = k then 1 else 0) := by
  unfold mkL ups
  rw [List.countP_append, List.countP_cons]; simp
theorem ups_high (ho : Ok dep nxt L) {n : Nat} (h : nxt ≤ n) : ups L n = 0 := ups_zero.2 fun m hm e => by have := ho.down m hm; have := ho.hi m hm; omega
theorem rowG_mk (ho : Ok dep nxt L) {t : Nat} {u : Md} (hu : look L t = some u) (off size : Nat) :
    rowG (mkL L nxt t off size) = updG (updG (rowG L) nxt (some (rowV ⟨nxt, t, off, size, false⟩ 0))) t (some (rowV u ((ups L t : Nat) + 1))) := by
  have hm := look_mem hu
  have hlt := ho.hi u hm.1
  funext k
  by_cases hk : k = t
  · subst hk
    rw [updG_same]
    unfold rowG
    rw [look_mk ho, if_neg (by omega), hu, ups_mk, if_pos rfl]; rfl
  · rw [updG_other _ _ hk]
    by_cases hk2 : k = nxt
    · subst hk2
      rw [updG_same]
      unfold rowG
      rw [look_mk ho, if_pos rfl, ups_mk, if_neg (by omega), ups_high ho (Nat.le_refl _)]; rfl
    · rw [updG_other _ _ hk2]
      unfold rowG
      rw [look_mk ho, if_neg hk2, ups_mk, if_neg (by omega)]; rfl
theorem rowG_mk0 (ho : Ok dep nxt L) (off size : Nat) : rowG (mkL L nxt 0 off size) = updG (rowG L) nxt (some (rowV ⟨nxt, 0, off, size, false⟩ 0)) := by
  have := ho.n1
  funext k
  by_cases hk2 : k = nxt
  · subst hk2
    rw [updG_same]
    unfold rowG
    rw [look_mk ho, if_pos rfl, ups_mk, if_neg (by omega), ups_high ho (Nat.le_refl _)]; rfl
  · rw [updG_other _ _ hk2]
    unfold rowG
    rw [look_mk ho, if_neg hk2, ups_mk]
    by_cases hk : k = 0
    · subst hk; rw [ho.look_zero]; rfl
    · rw [if_neg (by omega)]; rfl

/-! in order still -/
theorem ok_new (h1 : 1 ≤ dep) (h2 : dep ≤ 64) : Ok dep 1 [] :=
  ⟨h1, h2, by omega, .nil, (by intro m h; cases h), (by intro m h; cases h), (by intro m h; cases h), (by intro m h; cases h), (by intro m h; cases h), (by intro m h; cases h), (by intro m h; cases h)⟩
theorem Ok.turn (ho : Ok dep nxt L) {g : Md → Md} (hg : ∀ m, (g m).id = m.id) (ht : ∀ m, (g m).tgt = m.tgt ∨ (g m).tgt = 0) (hf : ∀ m, m.fixed = true → (g m).fixed = true) (hs : ∀ m, look L m.id = some m → 1 ≤ (g m).size ∧ (g m).size ≤ 1048576) (hof : ∀ m, m.off ≤ 1048576 → (g m).off ≤ 1048576) (n : Nat) : Ok dep nxt (chg L n g) := by
  have el : ∀ m ∈ chg L n g, ∃ a ∈ L, m.id = a.id ∧ (m.tgt = a.tgt ∨ m.tgt = 0) ∧ (m = a ∨ m = g a) := fun m hm => by
    obtain ⟨a, ha, e⟩ := mem_chg hm
    refine ⟨a, ha, ?_⟩
    by_cases q : a.id = n
    · rw [if_pos q] at e; subst e; exact ⟨hg a, ht a, .inr rfl⟩
    · rw [if_neg q] at e; subst e; exact ⟨rfl, .inl rfl, .inl rfl⟩
  have lk : ∀ k m, look (chg L n g) k = some m → ∃ a, look L k = some a ∧ (m.tgt = a.tgt ∨ m.tgt = 0) := fun k m hk => by
    rw [look_chg hg] at hk
    cases e : look L k with
    | none => rw [e] at hk; cases hk
    | some a =>
      rw [e] at hk
      refine ⟨a, rfl, ?_⟩
      simp only [Option.map_some, Option.some.injEq] at hk
      subst hk
      split
      · exact ht a
      · exact .inl rfl
  refine ⟨ho.d1, ho.d2, ho.n1, chg_rise hg n ho.rise, fun m hm => ?_, fun m hm => ?_, fun m hm => ?_, fun m hm h0 => ?_, fun m hm => ?_, fun m hm => ?_, fun m hm => ?_⟩
  · obtain ⟨a, ha, e, _⟩ := el m hm; rw [e]; exact ho.lo a ha
  · obtain ⟨a, ha, e, _⟩ := el m hm; rw [e]; exact ho.hi a ha
  · obtain ⟨a, ha, e, q, _⟩ := el m hm
    have := ho.down a ha
    have := ho.lo a ha
    rcases q with q | q <;> omega
  · obtain ⟨a, ha, e, q, _⟩ := el m hm
    rcases q with q | q
    · rw [q] at h0 ⊢
      obtain ⟨u, hu, hfu⟩ := ho.under a ha h0
      rw [look_chg hg, hu]
      refine ⟨_, rfl, ?_⟩
      split
      · exact hf u hfu
      · exact hfu
    · exact absurd q h0
  · obtain ⟨a, ha, e, _, q⟩ := el m hm
    rcases q with q | q
    · rw [q]; exact ho.size a ha
    · rw [q]; exact hs a (look_of_mem ho.rise ha)
  · obtain ⟨a, ha, e, _, q⟩ := el m hm
    rcases q with q | q
    · rw [q]; exact ho.off a ha
    · rw [q]; exact hof a (ho.off a ha)
  · obtain ⟨a, ha, e, _⟩ := el m hm
    exact Nat.le_trans (deepN_mono ho.look_zero lk m.id m.id) (e ▸ ho.deep a ha)
theorem Ok.fix (ho : Ok dep nxt L) (n : Nat) : Ok dep nxt (fixL L n) := ho.turn (g := gFix) (fun _ => rfl) (fun _ => .inl rfl) (fun _ _ => rfl) (fun m hm => ho.size m (look_mem hm).1) (fun _ h => h) n
theorem Ok.res (ho : Ok dep nxt L) (n : Nat) {s : Nat} (h1 : 1 ≤ s) (h2 : s ≤ 1048576) : Ok dep nxt (resL L n s) := ho.turn (g := gRes s) (fun _ => rfl) (fun _ => .inl rfl) (fun _ h => h) (fun _ _ => ⟨h1, h2⟩) (fun _ h => h) n
theorem Ok.alone (ho : Ok dep nxt L) (n : Nat) : Ok dep nxt (aloneL L n) := ho.turn (g := gAlone) (fun _ => rfl) (fun _ => .inr rfl) (fun _ h => h) (fun m hm => ho.size m (look_mem hm).1) (fun _ _ => Nat.zero_le _) n
theorem Ok.drop (ho : Ok dep nxt L) {n : Nat} (hn : ups L n = 0) : Ok dep nxt (dropL L n) := by
  have el : ∀ m ∈ dropL L n, m ∈ L := fun m hm => (List.mem_filter.1 hm).1
  refine ⟨ho.d1, ho.d2, ho.n1, ho.rise.filter _, fun m hm => ho.lo m (el m hm), fun m hm => ho.hi m (el m hm), fun m hm => ho.down m (el m hm), fun m hm h0 => ?_, fun m hm => ho.size m (el m hm), fun m hm => ho.off m (el m hm), fun m hm => ?_⟩
  · obtain ⟨u, hu, hf⟩ := ho.under m (el m hm) h0
    refine ⟨u, ?_, hf⟩
    rw [look_drop, if_neg (ups_zero.1 hn m (el m hm))]; exact hu
  · refine Nat.le_trans (deepN_mono ho.look_zero (fun k a hk => ?_) m.id m.id) (ho.deep m (el m hm))
    rw [look_drop] at hk
    split at hk
    · cases hk
    · exact ⟨a, hk, .inl rfl⟩
theorem deepL_mk (ho : Ok dep nxt L) (t off size : Nat) {n : Nat} (hn : n < nxt) : deepL (mkL L nxt t off size) n = deepL L n :=
  deepN_below (N := nxt) ho.down (fun k hk => by rw [look_mk ho, if_neg (by omega)]) n n hn
theorem Ok.mk' (ho : Ok dep nxt L) {t off size : Nat} (ht : t = 0 ∨ ∃ u, look L t = some u ∧ u.fixed = true) (hd : deepL L t < dep) (h1 : 1 ≤ size) (h2 : size ≤ 1048576) (h3 : off ≤ 1048576) : Ok dep (nxt + 1) (mkL L nxt t off size) := by
  have hn1 := ho.n1
  have htn : t < nxt := by
    rcases ht with h | ⟨u, h, _⟩
    · omega
    · have := look_mem h; have := ho.hi u this.1; omega
  have el : ∀ m ∈ mkL L nxt t off size, m ∈ L ∨ m = ⟨nxt, t, off, size, false⟩ := fun m hm => by
    rcases List.mem_append.1 hm with h | h
    · exact .inl h
    · exact .inr (List.mem_singleton.1 h)
  refine ⟨ho.d1, ho.d2, by omega, ?_, fun m hm => ?_, fun m hm => ?_, fun m hm => ?_, fun m hm h0 => ?_, fun m hm => ?_, fun m hm => ?_, fun m hm => ?_⟩
  · unfold mkL
    rw [List.pairwise_append]
    exact ⟨ho.rise, by simp, fun a ha b hb => by rw [List.mem_singleton.1 hb]; exact ho.hi a ha⟩
  · rcases el m hm with h | rfl
    · exact ho.lo m h
    · exact hn1
  · rcases el m hm with h | rfl
    · have := ho.hi m h; omega
    · exact Nat.lt_succ_self _
  · rcases el m hm with h | rfl
    · exact ho.down m h
    · exact htn
  · rw [look_mk ho]
    rcases el m hm with h | rfl
    · have h3 := ho.down m h
      have h4 := ho.hi m h
      rw [if_neg (by omega)]
      exact ho.under m h h0
    · rw [if_neg (by show ¬ t = nxt; omega)]
      rcases ht with h | h
      · exact absurd h h0
      · exact h
  · rcases el m hm with h | rfl
    · exact ho.size m h
    · exact ⟨h1, h2⟩
  · rcases el m hm with h | rfl
    · exact ho.off m h
    · exact h3
  · rcases el m hm with h | rfl
    · rw [deepL_mk ho _ _ _ (ho.hi m h)]; exact ho.deep m h
    · have hdn : ∀ a ∈ mkL L nxt t off size, a.tgt < a.id := fun a ha => by
        rcases el a ha with h | rfl
        · exact ho.down a h
        · exact htn
      have h0 : look (mkL L nxt t off size) 0 = none := by rw [look_mk ho, if_neg (by omega)]; exact ho.look_zero
      have hl : look (mkL L nxt t off size) nxt = some ⟨nxt, t, off, size, false⟩ := by rw [look_mk ho, if_pos rfl]
      show deepL _ nxt ≤ dep
      rw [deepL_some hdn h0 hl, deepL_mk ho _ _ _ htn]
      omega
end
end Go.Proofs.Ytejimgjonhaocaa

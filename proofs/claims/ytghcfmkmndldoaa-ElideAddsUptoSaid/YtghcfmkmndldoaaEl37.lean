/-
  slices.Insert and slices.Replace at elisions, for owned slices.
-/
import Derived.Test.YtghcfmkmndldoaaEl31
import Derived.Test.YtghcfmkmndldoaaEl32
import Derived.Test.YtghcfmkmndldoaaEl33
import Derived.Test.YtghcfmkmndldoaaEl34
import Derived.Test.YtghcfmkmndldoaaEl35
import Derived.Test.YtghcfmkmndldoaaEl36
namespace Go.Proofs.Ytghcfmkmndldoaa
open Go.RowKit Go.Sort Go.Lib

section
set_option maxRecDepth 100000
set_option maxHeartbeats 8000000
theorem insert_any (base base2 : Nat) (A A2 : Option Addr) (n i c m uc : Nat) (es fs : List Ec) (w : World) (ho : OwnE w base (.slice A n c) es) (hn : n = es.length) (hi : i ≤ n) (hu : OwnE w base2 (.slice A2 m uc) fs) (hm : m = fs.length)
    (hne : ∀ b, (Value.slice A n c).ownBlock = some b → (Value.slice A2 m uc).ownBlock ≠ some b) (hbase : base ≤ w.heap.size) (hl : n + m ≤ 1000000000000) (hm0 : 0 < m) :
    Calls Try.prog 57 #[.slice A n c, .int .i64 (i : Int), .slice A2 m uc] w fun r w' => ∃ v', r = .returned v' ∧ OwnE w' base v' (es.take i ++ fs ++ es.drop i) ∧ Kept (fun k => (Value.slice A n c).ownBlock ≠ some k) w w' := by
  by_cases hin2 : i = n
  · exact insert_end base base2 A A2 n i c m uc es fs w ho hn hi hu hm hne hbase hl (by omega) hin2
  · obtain ⟨g, rfl⟩ : ∃ g, A = some ⟨g, 0, none⟩ := by
      rcases ho.2 with ⟨e, h0⟩ | ⟨g, cap, cur, e, _⟩
      · omega
      · cases e; exact ⟨g, rfl⟩
    obtain ⟨g2, rfl⟩ : ∃ g2, A2 = some ⟨g2, 0, none⟩ := by
      rcases hu.2 with ⟨e, h0⟩ | ⟨g, cap, cur, e, _⟩
      · omega
      · cases e; exact ⟨g, rfl⟩
    obtain ⟨L, hR, hLt, hbg, hnc, hcm, _⟩ := ho.row
    obtain ⟨L2, hR2, hL2t, hbg2, hmu, _, _⟩ := hu.row
    have T : TwoR w base g g2 n m c uc L L2 es fs := ⟨hR, hLt, hR2, hL2t, hn, hm, (fun e => hne g rfl (by rw [e]; rfl)), hbg, hcm, hnc, hmu, hm0, hl, hbase⟩
    have hfin : ∀ r w', (∃ v', r = Ending.returned v' ∧ OwnE w' base v' (es.take i ++ fs ++ es.drop i) ∧ Kept (fun k => k ≠ g) w w') → ∃ v', r = Ending.returned v' ∧ OwnE w' base v' (es.take i ++ fs ++ es.drop i) ∧ Kept (fun k => (Value.slice (some ⟨g, 0, none⟩) n c).ownBlock ≠ some k) w w' := fun r w' ⟨v', h1, h2, h3⟩ => ⟨v', h1, h2, h3.mono fun k _ q e => q (by rw [e]; rfl)⟩
    rcases Nat.lt_or_ge c (n + m) with q | q
    · exact (ins_grow i T (by omega) q).mono hfin
    · exact (ins_room i T (by omega) q).mono hfin
theorem replace_any (base base2 : Nat) (A A2 : Option Addr) (n i j c m uc : Nat) (es fs : List Ec) (w : World) (ho : OwnE w base (.slice A n c) es) (hn : n = es.length) (hij : i ≤ j) (hj : j ≤ n) (hu : OwnE w base2 (.slice A2 m uc) fs) (hm : m = fs.length)
    (hne : ∀ b, (Value.slice A n c).ownBlock = some b → (Value.slice A2 m uc).ownBlock ≠ some b) (hbase : base ≤ w.heap.size) (hl : n + m ≤ 1000000000000) (hm0 : 0 < m) :
    Calls Try.prog 37 #[.slice A n c, .int .i64 (i : Int), .int .i64 (j : Int), .slice A2 m uc] w fun r w' => ∃ v', r = .returned v' ∧ OwnE w' base v' (es.take i ++ fs ++ es.drop j) ∧ Kept (fun k => (Value.slice A n c).ownBlock ≠ some k) w w' := by
  by_cases hij2 : i = j
  · subst hij2
    have HI := Lib.hid (insert_any base base2 A A2 n i c m uc es fs w ho hn hj hu hm hne hbase hl hm0)
    have hnc : n ≤ c ∧ c ≤ 9223372036854775807 := by
      rcases ho.2 with ⟨e, h0⟩ | ⟨g, cap, cur, e, _, _, h1, h2, _⟩
      · cases e; exact ⟨by omega, by omega⟩
      · cases e; simp only [maxLen] at h2; omega
    have hin : (i : Int) ≤ (n : Int) := by omega
    have hic : (i : Int) ≤ (c : Int) := by omega
    generalize es.take i ++ fs ++ es.drop i = res at *
    obtain ⟨P, hP⟩ : ∃ P : World → Value → World → Prop, P = fun w v' w' => OwnE w' base v' res ∧ Kept (fun k => (Value.slice A n c).ownBlock ≠ some k) w w' := ⟨_, rfl⟩
    have HI2 : Hid (Calls Try.prog 57 #[.slice A n c, .int .i64 (i : Int), .slice A2 m uc] w fun r w' => ∃ A' n' c', r = .returned (.slice A' n' c') ∧ P w (.slice A' n' c') w') := by
      subst hP
      exact HI.out.mono fun r w' ⟨v', h1, h2, h3⟩ => by
        obtain ⟨A', c', rfl, _⟩ := h2.rd
        exact ⟨A', _, c', h1, h2, h3⟩
    have Hg : Hid (∀ w', ∀ v', P w v' w' → OwnE w' base v' res ∧ Kept (fun k => (Value.slice A n c).ownBlock ≠ some k) w w') := by subst hP; exact fun _ _ h => h
    suffices hs : Calls Try.prog 37 #[.slice A n c, .int .i64 (i : Int), .int .i64 (i : Int), .slice A2 m uc] w fun r w' => ∃ v', r = .returned v' ∧ P w v' w' from hs.mono fun r w' ⟨v', h1, h2⟩ => ⟨v', h1, Hg.out _ _ h2⟩
    clear ho hu hn hm hne hbase hl hm0 hP Hg HI
    rcases Decidable.em (c = i) with hci | hci
    · subst hci
      go_enter Try.func37, Try.ntmps37
      go_wp2_with fail
      refine HI2.out.mono ?_
      rintro r w2 ⟨A3, n3, c3, rfl, h2⟩
      have H2 := Lib.hid h2
      clear h2 HI2
      go_wp2_with fail
      go_ret
      exact ⟨_, rfl, H2.out⟩
    all_goals
      go_enter Try.func37, Try.ntmps37
      go_wp2_with fail
      refine HI2.out.mono ?_
      rintro r w2 ⟨A3, n3, c3, rfl, h2⟩
      have H2 := Lib.hid h2
      clear h2 HI2
      go_wp2_with fail
      go_ret
      exact ⟨_, rfl, H2.out⟩
  · obtain ⟨g, rfl⟩ : ∃ g, A = some ⟨g, 0, none⟩ := by
      rcases ho.2 with ⟨e, h0⟩ | ⟨g, cap, cur, e, _⟩
      · omega
      · cases e; exact ⟨g, rfl⟩
    obtain ⟨g2, rfl⟩ : ∃ g2, A2 = some ⟨g2, 0, none⟩ := by
      rcases hu.2 with ⟨e, h0⟩ | ⟨g, cap, cur, e, _⟩
      · omega
      · cases e; exact ⟨g, rfl⟩
    obtain ⟨L, hR, hLt, hbg, hnc, hcm, _⟩ := ho.row
    obtain ⟨L2, hR2, hL2t, hbg2, hmu, _, _⟩ := hu.row
    have T : TwoR w base g g2 n m c uc L L2 es fs := ⟨hR, hLt, hR2, hL2t, hn, hm, (fun e => hne g rfl (by rw [e]; rfl)), hbg, hcm, hnc, hmu, hm0, hl, hbase⟩
    have hfin : ∀ r w', (∃ v', r = Ending.returned v' ∧ OwnE w' base v' (es.take i ++ fs ++ es.drop j) ∧ Kept (fun k => k ≠ g) w w') → ∃ v', r = Ending.returned v' ∧ OwnE w' base v' (es.take i ++ fs ++ es.drop j) ∧ Kept (fun k => (Value.slice (some ⟨g, 0, none⟩) n c).ownBlock ≠ some k) w w' := fun r w' ⟨v', h1, h2, h3⟩ => ⟨v', h1, h2, h3.mono fun k _ q e => q (by rw [e]; rfl)⟩
    by_cases hjn : j = n
    · subst hjn
      rcases Nat.lt_or_ge (i + m) j with q | q
      · exact (rep_end1 i T (by omega) q).mono hfin
      · exact (rep_end2 i T (by omega) q).mono hfin
    · rcases Nat.lt_or_ge c (i + m + (n - j)) with q | q
      · exact (rep_grow i j T (by omega) (by omega) q).mono hfin
      · rcases Nat.lt_or_ge j (i + m) with p | p
        · exact (rep_long i j T (by omega) (by omega) q p).mono hfin
        · exact (rep_short i j T (by omega) (by omega) q p).mono hfin
end
end Go.Proofs.Ytghcfmkmndldoaa

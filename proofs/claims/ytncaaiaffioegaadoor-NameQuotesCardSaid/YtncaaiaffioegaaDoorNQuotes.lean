/-
  Quoted texts: the law's walk.
-/
import Derived.Test.YtncaaiaffioegaaDoorNKnown
import Derived.Test.YtncaaiaffioegaaDoorNRefUnquote
namespace Go.Proofs.YtncaaiaffioegaaDoor
open Go.RowKit

set_option maxRecDepth 20000 in
set_option maxHeartbeats 1000000 in
theorem quotes_any (s : ByteArray) (w : World) (hE : Err w) :
    Calls Tryd.prog 3 #[.string s] w fun e w' => e = .returned (.bool true) ∧ Below w.heap.size w w' := by
  have HE := Lib.hid hE
  have Hk := Lib.hid (known_any w)
  clear hE
  by_cases big : 32768 < s.size
  · have hd : (32768 : Int) < (s.size : Int) := by omega
    clear big
    go_enter Tryd.func3, Tryd.ntmps3
    go_wp2_with (go_at_call 5; refine Hk.out.mono ?_; rintro e w1 ⟨rfl, hb1⟩; have Hb1 := Lib.hid hb1; clear hb1 Hk)
    go_ret
    exact ⟨rfl, Hb1.out⟩
  have hs' : (s.size : Int) ≤ 32768 := by omega
  have Hs : Hid (s.size ≤ 32768) := by show _ ≤ _; omega
  obtain ⟨a, ha⟩ : ∃ a, a = (unquoteL s.data.toList).1 := ⟨_, rfl⟩
  obtain ⟨n, hn⟩ : ∃ n, n = (unquoteL s.data.toList).2 := ⟨_, rfl⟩
  have hu : unqVal (unquoteL s.data.toList) = .tuple #[.string ⟨a.toArray⟩, .int .i64 (n : Int)] := by rw [ha, hn]; rfl
  have HU := Lib.hid (fun (W : World) (hW : Err W) => unquote_any s W (by omega) hW)
  have HV := Lib.hid (fun (W : World) => refUnquote_any s W (by omega))
  rw [hu] at HU HV
  have Hql : (quoteL s.data.toList).length ≤ 200000 := by
    have h1 := quote_le s.data.toList
    have h2 : s.data.toList.length = s.size := rfl
    omega
  have HQ := Lib.hid (fun (W : World) => quote_any s W (by omega))
  have HR := Lib.hid (fun (W : World) => refQuote_any s W (by omega))
  have HB := Lib.hid (fun (W : World) (hW : Err W) => unquote_any ⟨(quoteL s.data.toList).toArray⟩ W (by show (quoteL s.data.toList).length ≤ _; omega) hW)
  have hb : unqVal (unquoteL (⟨(quoteL s.data.toList).toArray⟩ : ByteArray).data.toList) = .tuple #[.string s, .int .i64 0] := by
    have e : (⟨(quoteL s.data.toList).toArray⟩ : ByteArray).data.toList = quoteL s.data.toList := by simp
    rw [e, unquote_quote]
    show Value.tuple #[.string ⟨s.data.toList.toArray⟩, .int .i64 0] = _
    simp
  rw [hb] at HB
  generalize (⟨(quoteL s.data.toList).toArray⟩ : ByteArray) = q at HQ HR HB
  generalize (⟨a.toArray⟩ : ByteArray) = u at HU HV
  clear ha hn hu hb Hql big
  go_enter Tryd.func3, Tryd.ntmps3
  go_wp2_with (go_at_call 5; refine Hk.out.mono ?_; rintro e w1 ⟨rfl, hb1⟩; have Hb1 := Lib.hid hb1; clear hb1 Hk)
  refine (HU.out _ (HE.out.below Hb1.out)).mono ?_
  rintro e w2 ⟨rfl, hb2⟩
  have Hb2 : Hid (Below w.heap.size w w2) := Hb1.out.trans (hb2.mono Hb1.out.size)
  clear hb2 HU
  go_wp2_with fail
  refine (HV.out _).mono ?_
  rintro e w3 ⟨rfl, hb3⟩
  have Hb3 : Hid (Below w.heap.size w w3) := Hb2.out.trans (hb3.mono Hb2.out.size)
  clear hb3 HV
  go_wp2_with fail
  refine (HQ.out _).mono ?_
  rintro e w4 ⟨rfl, hb4⟩
  have Hb4 : Hid (Below w.heap.size w w4) := Hb3.out.trans (hb4.mono Hb3.out.size)
  clear hb4
  go_wp2_with fail
  refine (HR.out _).mono ?_
  rintro e w5 ⟨rfl, hb5⟩
  have Hb5 : Hid (Below w.heap.size w w5) := Hb4.out.trans (hb5.mono Hb4.out.size)
  clear hb5 HR
  go_wp2_with fail
  refine (HQ.out _).mono ?_
  rintro e w6 ⟨rfl, hb6⟩
  have Hb6 : Hid (Below w.heap.size w w6) := Hb5.out.trans (hb6.mono Hb5.out.size)
  clear hb6 HQ
  go_wp2_with fail
  refine (HB.out _ (HE.out.below Hb6.out)).mono ?_
  rintro e w7 ⟨rfl, hb7⟩
  have Hb7 : Hid (Below w.heap.size w w7) := Hb6.out.trans (hb7.mono Hb6.out.size)
  clear hb7 HB
  go_wp2_with fail
  go_ret
  exact ⟨rfl, Hb7.out⟩
end Go.Proofs.YtncaaiaffioegaaDoor

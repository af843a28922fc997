/-
  The contracts of package manifest's Same and Newer.
-/
import Derived.Test.YtioflclfgkcpfaaDoorKLMan
import Derived.Test.YtioflclfgkcpfaaDoorKHTag
namespace Go.Proofs.YtioflclfgkcpfaaDoor
open Go.RowKit
open Go.Proofs

theorem str_dec (S T : ByteArray) : (S.toList == T.toList) = decide (S = T) := by
  rw [Bool.eq_iff_iff]
  simp only [beq_iff_eq, decide_eq_true_eq]
  refine ⟨fun h => ?_, fun h => by rw [h]⟩
  rw [ByteArray.toList_eq, ByteArray.toList_eq] at h
  exact ByteArray.ext (Array.ext' h)
set_option maxRecDepth 100000 in
set_option maxHeartbeats 1000000 in
theorem rsame_any (v1 v2 : Value) (m1 m2 : Mf) (b : Bool) (hb : b = sameM m1 m2) (w : World) (hV1 : MV w v1 m1) (hV2 : MV w v2 m2) :
    Calls Tryd.prog 20 #[v1, v2] w fun e w' => e = .returned (.bool b) ∧ Kp [] w w' := by
  obtain ⟨af, nf, cf, an, nn, cn, rfl, hF, hNt, hok⟩ := hV1
  obtain ⟨bf, kf, ef, bn, kn, en, rfl, hF2, hNt2, hok2⟩ := hV2
  obtain ⟨o1, ho1⟩ : ∃ o : Obj, o = (.cells #[.string m1.s, .int .u32 m1.v, .slice af nf cf, .slice an nn cn] 25) := ⟨_, rfl⟩
  obtain ⟨o2, ho2⟩ : ∃ o : Obj, o = (.cells #[.string m2.s, .int .u32 m2.v, .slice bf kf ef, .slice bn kn en] 25) := ⟨_, rfl⟩
  have K1 : Kp [] w ((w.alloc o1).alloc o2) := ((Kp.refl [] w).alloc o1).alloc o2
  have q1 := (hF.kept K1 (by simp)).conv (P := Tryd.prog) 23 9 5 Tryd.underlying23 Tryd.underlying5 Tryd.underlying9
  have q2 := (hF2.kept K1 (by simp)).conv (P := Tryd.prog) 23 9 5 Tryd.underlying23 Tryd.underlying5 Tryd.underlying9
  have q3 := (hNt.kept K1 (by simp)).conv (P := Tryd.prog) 23 9 5 Tryd.underlying23 Tryd.underlying5 Tryd.underlying9
  have q4 := (hNt2.kept K1 (by simp)).conv (P := Tryd.prog) 23 9 5 Tryd.underlying23 Tryd.underlying5 Tryd.underlying9
  have HFb := hide (str_beq m1.f m2.f hok.f hok2.f)
  have HNb := hide (str_beq m1.n m2.n hok.n hok2.n)
  obtain ⟨A1, hA1⟩ : ∃ A, A = strOfNums m1.f := ⟨_, rfl⟩
  obtain ⟨A2, hA2⟩ : ∃ A, A = strOfNums m2.f := ⟨_, rfl⟩
  obtain ⟨A3, hA3⟩ : ∃ A, A = strOfNums m1.n := ⟨_, rfl⟩
  obtain ⟨A4, hA4⟩ : ∃ A, A = strOfNums m2.n := ⟨_, rfl⟩
  rw [← hA1] at q1 HFb
  rw [← hA2] at q2 HFb
  rw [← hA3] at q3 HNb
  rw [← hA4] at q4 HNb
  rw [ho1, ho2] at q1 q2 q3 q4 K1
  have HK := hide K1
  obtain ⟨s1, x1, f1, n1⟩ := m1
  obtain ⟨s2, x2, f2, n2⟩ := m2
  simp only at hA1 hA2 hA3 hA4 HFb HNb ⊢
  have HB := hide hb
  clear hb hF hNt hF2 hNt2 hok hok2 ho1 ho2 K1
  by_cases c1 : s1 = s2
  · subst c1
    by_cases c2 : x1 = x2
    · subst c2
      by_cases c3 : f1 = f2
      · have c3' : A1 = A2 := by rw [hA1, hA2, c3]
        by_cases c4 : n1 = n2
        · have c4' : A3 = A4 := by rw [hA3, hA4, c4]
          clear hA1 hA2 hA3 hA4 HFb HNb
          subst c3
          subst c4
          subst c3'
          subst c4'
          go_enter Tryd.func20, Tryd.ntmps20
          go_wp2_with fail
          go_ret
          exact ⟨by rw [unhide HB]; unfold sameM; simp, unhide HK⟩
        · have h4 : (A3.toList == A4.toList) = false := by rw [unhide HNb]; exact decide_eq_false c4
          clear hA1 hA2 hA3 hA4 HFb HNb
          subst c3
          subst c3'
          go_enter Tryd.func20, Tryd.ntmps20
          go_wp2_with fail
          go_ret
          exact ⟨by rw [unhide HB]; unfold sameM; simp [c4], unhide HK⟩
      · have h3 : (A1.toList == A2.toList) = false := by rw [unhide HFb]; exact decide_eq_false c3
        clear hA1 hA2 hA3 hA4 HFb HNb
        go_enter Tryd.func20, Tryd.ntmps20
        go_wp2_with fail
        go_ret
        exact ⟨by rw [unhide HB]; unfold sameM; simp [c3], unhide HK⟩
    · have h2 : (x1 == x2) = false := beq_eq_false_iff_ne.2 c2
      go_enter Tryd.func20, Tryd.ntmps20
      go_wp2_with fail
      go_ret
      exact ⟨by rw [unhide HB]; unfold sameM; simp [c2], unhide HK⟩
  · have h1 : (s1.toList == s2.toList) = false := by rw [str_dec]; exact decide_eq_false c1
    go_enter Tryd.func20, Tryd.ntmps20
    go_wp2_with fail
    go_ret
    exact ⟨by rw [unhide HB]; unfold sameM; simp [c1], unhide HK⟩
end Go.Proofs.YtioflclfgkcpfaaDoor

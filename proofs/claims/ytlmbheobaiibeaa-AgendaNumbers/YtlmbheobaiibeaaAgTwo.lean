/-
  Two agendas side by side; rows of times and things.
-/
import Derived.Test.YtlmbheobaiibeaaAgB
namespace Go.Proofs.Ytlmbheobaiibeaa
open Go.RowKit Go.Sort Go.Lib

/-- Two agendas that were made since w0 and share nothing. -/
structure Two (w0 w : World) (pa : Nat) (va : Value) (ma : List En) (ka : Nat) (pb : Nat) (vb : Value) (mb : List En) (kb : Nat) : Prop where
  a : Ag w pa va ma ka
  b : Ag w pb vb mb kb
  fa : Fr w0 pa va
  fb : Fr w0 pb vb
  dis : ∀ i ∈ fp pa va, i ∉ fp pb vb
  kp : Kp [] w0 w
section
variable {w0 w w' : World} {pa : Nat} {va va' : Value} {ma ma' : List En} {ka ka' : Nat} {pb : Nat} {vb vb' : Value} {mb mb' : List En} {kb kb' : Nat}
theorem fp_step (t : Ste pa w va w' va') : ∀ i ∈ fp pa va', i ∈ fp pa va ∨ w.heap.size ≤ i := by
  intro i hi
  simp only [fp, List.mem_cons, Option.mem_toList] at hi ⊢
  rcases hi with rfl | hi
  · exact .inl (.inl rfl)
  · rcases t.2 i hi with h | h
    · exact .inl (.inr h)
    · exact .inr h
theorem Two.stepA (h : Two w0 w pa va ma ka pb vb mb kb) (g : Ag w' pa va' ma' ka') (t : Ste pa w va w' va') : Two w0 w' pa va' ma' ka' pb vb mb kb := by
  obtain ⟨K, F⟩ := Ste.fresh h.kp h.fa t
  refine ⟨g, h.b.kept t.1 (fun i hi hn => h.dis i hn hi), F, h.fb, fun i hi hn => ?_, K⟩
  rcases fp_step t i hi with h1 | h1
  · exact h.dis i h1 hn
  · have := h.b.lt i hn; omega
theorem Two.stepB (h : Two w0 w pa va ma ka pb vb mb kb) (g : Ag w' pb vb' mb' kb') (t : Ste pb w vb w' vb') : Two w0 w' pa va ma ka pb vb' mb' kb' := by
  obtain ⟨K, F⟩ := Ste.fresh h.kp h.fb t
  refine ⟨h.a.kept t.1 (fun i hi hn => h.dis i hi hn), g, h.fa, F, fun i hi hn => ?_, K⟩
  rcases fp_step t i hn with h1 | h1
  · exact h.dis i hi h1
  · have := h.a.lt i hi; omega
theorem Two.on (h : Two w0 w pa va ma ka pb vb mb kb) (k : Kp [] w w') : Two w0 w' pa va ma ka pb vb mb kb := ⟨h.a.keptN k, h.b.keptN k, h.fa, h.fb, h.dis, h.kp.trans k⟩
theorem two_new {w1 w2 : World} (A : Ag w1 pa (.slice none 0 0) [] 0) (ha : w.heap.size ≤ pa) (k1 : Kp [] w w1) (B : Ag w2 pb (.slice none 0 0) [] 0) (hb : w1.heap.size ≤ pb) (k2 : Kp [] w1 w2) : Two w w2 pa (.slice none 0 0) [] 0 pb (.slice none 0 0) [] 0 := by
  have hl := A.lt pa (by simp [fp])
  exact ⟨A.keptN k2, B, fr_new ha, fr_new (Nat.le_trans k1.size hb), fun i hi hn => by simp [fp, Value.ownBlock] at hi hn; omega, k1.trans k2⟩
end

/-- An entry's time and thing. -/
def pr (e : En) : Int × Int := (e.at_, e.what)
/-- Put in behind all whose time is not greater. -/
def putA : List (Int × Int) → Int × Int → List (Int × Int)
  | [], e => [e]
  | x :: l, e => if e.1 < x.1 then e :: x :: l else x :: putA l e
theorem ltE_new {e x : En} (h : x.num < e.num) : ltE e x = decide (e.at_ < x.at_) := by
  unfold ltE
  split <;> simp <;> omega
theorem insE_pr {m : List En} {e : En} (h : ∀ x ∈ m, x.num < e.num) : (insE m e).map pr = putA (m.map pr) (pr e) := by
  induction m with
  | nil => rfl
  | cons x l ih =>
    have hx := ltE_new (h x (by simp))
    unfold insE
    simp only [List.map_cons, putA, hx, pr]
    by_cases hc : e.at_ < x.at_
    · simp [hc, pr]
    · have := ih (fun y hy => h y (by simp [hy]))
      simp only [hc, decide_false, Bool.false_eq_true, if_false, List.map_cons]
      rw [this]
      rfl
theorem insE_front {m : List En} {e : En} (h : ∀ x ∈ m, ltE e x = true) : insE m e = e :: m := by
  cases m with
  | nil => rfl
  | cons x l => unfold insE; rw [if_pos (h x (by simp))]
theorem insE_filter {m : List En} {e : En} (hs : Srt m) (f : En → Bool) : (insE m e).filter f = if f e then insE (m.filter f) e else m.filter f := by
  induction m with
  | nil => simp only [insE, List.filter_nil]; split <;> simp_all
  | cons x l ih =>
    have h1 := List.pairwise_cons.1 hs
    by_cases hc : ltE e x = true
    · have hall : ∀ y ∈ (x :: l).filter f, ltE e y = true := fun y hy => by
        rcases List.mem_cons.1 (List.mem_filter.1 hy).1 with rfl | hy'
        · exact hc
        · exact swoE'.trans _ _ _ hc (h1.1 y hy')
      rw [insE_front hall]
      unfold insE
      rw [if_pos hc, List.filter_cons]
    · have e1 : insE (x :: l) e = x :: insE l e := by conv => lhs; unfold insE; rw [if_neg hc]
      rw [e1, List.filter_cons, ih h1.2, List.filter_cons]
      by_cases hfx : f x = true
      · simp only [hfx, if_true]
        split
        · conv => rhs; unfold insE; rw [if_neg hc]
        · rfl
      · simp only [hfx, Bool.false_eq_true, if_false]
theorem pr_what (m : List En) : m.map En.what = (m.map pr).map Prod.snd := by rw [List.map_map]; rfl
theorem pr_len (m : List En) : m.length = (m.map pr).length := by simp
end Go.Proofs.Ytlmbheobaiibeaa

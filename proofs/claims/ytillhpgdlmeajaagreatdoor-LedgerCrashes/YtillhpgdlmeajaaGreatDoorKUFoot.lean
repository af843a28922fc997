/-
  Things that lie side by side in memory: the blocks of each, and what a step of one of them may write.
-/
import Derived.Test.YtillhpgdlmeajaaGreatDoorKDMem
namespace Go.Proofs.YtillhpgdlmeajaaGreatDoor
open Go.RowKit
open Go.Proofs

/-- a step of a thing that lies in the blocks F, behind it in F': it writes its own blocks, and makes new ones. -/
def Stp (F : Nat → Prop) (w w' : World) (F' : Nat → Prop) : Prop := (∃ S, (∀ i ∈ S, F i) ∧ Kp S w w') ∧ ∀ i, F' i → F i ∨ (w.heap.size ≤ i ∧ i < w'.heap.size)
theorem Stp.refl (F : Nat → Prop) (w : World) : Stp F w w F := ⟨⟨[], by simp, Kp.refl _ _⟩, fun _ h => .inl h⟩
theorem Stp.size {F F' : Nat → Prop} {w w' : World} (h : Stp F w w' F') : w.heap.size ≤ w'.heap.size := by obtain ⟨⟨S, _, k⟩, _⟩ := h; exact k.size
theorem Kp.comp {S T : List Nat} {a b c : World} (h : Kp S a b) (k : Kp T b c) : Kp (S ++ T) a c := (h.mono (by simp; intro x hx; exact .inl hx)).trans (k.mono (by simp; intro x hx; exact .inr hx))
/-- blocks that were not there make no odds. -/
theorem Kp.less {S T : List Nat} {a b : World} (h : Kp S a b) (hs : ∀ i ∈ S, i < a.heap.size → i ∈ T) : Kp T a b := ⟨h.os, h.tape, h.output, h.size, fun i hi hn => h.block i hi (fun hm => hn (hs i hm hi))⟩
theorem Stp.trans {F F' F'' : Nat → Prop} {a b c : World} (h : Stp F a b F') (k : Stp F' b c F'') : Stp F a c F'' := by
  obtain ⟨⟨S, hS, kS⟩, h2⟩ := h
  obtain ⟨⟨T, hT, kT⟩, k2⟩ := k
  refine ⟨⟨S ++ T.filter (fun i => decide (i < a.heap.size)), fun i hi => ?_, (kS.comp kT).less (fun i hi hlt => ?_)⟩, fun i hi => ?_⟩
  · rcases List.mem_append.1 hi with hi | hi
    · exact hS i hi
    · obtain ⟨h3, h4⟩ := List.mem_filter.1 hi
      exact (h2 i (hT i h3)).resolve_right (by have := of_decide_eq_true h4; omega)
  · rcases List.mem_append.1 hi with hi | hi
    · exact List.mem_append.2 (.inl hi)
    · exact List.mem_append.2 (.inr (List.mem_filter.2 ⟨hi, decide_eq_true hlt⟩))
  · rcases k2 i hi with h3 | h3
    · exact (h2 i h3).imp id (fun h => ⟨h.1, Nat.lt_of_lt_of_le h.2 kT.size⟩)
    · exact .inr ⟨Nat.le_trans kS.size h3.1, h3.2⟩
theorem Stp.mid {F : Nat → Prop} {a b : World} (k : Kp [] a b) : Stp F a b F := ⟨⟨[], by simp, k⟩, fun _ h => .inl h⟩
/-- what lies elsewhere stays. -/
theorem Stp.kp {F F' : Nat → Prop} {w w' : World} (h : Stp F w w' F') : ∃ S, (∀ i ∈ S, F i) ∧ Kp S w w' := h.1
theorem Stp.base {F F' : Nat → Prop} {w0 w w' : World} (h : Stp F w w' F') (k : Kp [] w0 w) (hF : ∀ i, F i → w0.heap.size ≤ i) : Kp [] w0 w' := by
  obtain ⟨⟨S, hS, kS⟩, _⟩ := h
  exact k.then kS (fun i hi => .inr (hF i (hS i hi)))
theorem Stp.off {F F' : Nat → Prop} {w w' : World} (h : Stp F w w' F') {i : Nat} (hi : i < w.heap.size) (hn : ¬ F i) : ¬ F' i := fun e => (h.2 i e).elim hn (fun h2 => by omega)
theorem Stp.heap {F F' : Nat → Prop} {w w' : World} (h : Stp F w w' F') {i : Nat} {o : Obj} (hi : w.heap[i]? = some o) (hn : ¬ F i) : w'.heap[i]? = some o := by
  obtain ⟨⟨S, hS, kS⟩, _⟩ := h
  exact kS.heap hi (fun hm => hn (hS i hm))

/-- which blocks each of many things lies in. -/
def Fps := Nat → Nat → Prop
def Fps.Apart (f : Fps) : Prop := ∀ a b i, f a i → f b i → a = b
def Fps.upd (f : Fps) (a : Nat) (F : Nat → Prop) : Fps := fun b i => (b = a ∧ F i) ∨ (b ≠ a ∧ f b i)
def Fps.tot (f : Fps) : Nat → Prop := fun i => ∃ a, f a i
theorem Fps.upd_same {f : Fps} {a : Nat} {F : Nat → Prop} {i : Nat} (h : F i) : f.upd a F a i := .inl ⟨rfl, h⟩
theorem Fps.upd_other {f : Fps} {a b : Nat} {F : Nat → Prop} {i : Nat} (hne : b ≠ a) (h : f b i) : f.upd a F b i := .inr ⟨hne, h⟩
theorem Fps.Apart.upd {f : Fps} {a : Nat} {F : Nat → Prop} {N : Nat} (h : f.Apart) (hF : ∀ i, F i → f a i ∨ N ≤ i) (hN : ∀ b i, f b i → i < N) : (f.upd a F).Apart := by
  intro b c i hb hc
  rcases hb with ⟨rfl, hb⟩ | ⟨nb, hb⟩
  · rcases hc with ⟨rfl, hc⟩ | ⟨nc, hc⟩
    · rfl
    · rcases hF i hb with h1 | h1
      · exact h _ _ _ h1 hc
      · have := hN _ _ hc; omega
  · rcases hc with ⟨rfl, hc⟩ | ⟨nc, hc⟩
    · rcases hF i hc with h1 | h1
      · exact h _ _ _ hb h1
      · have := hN _ _ hb; omega
    · exact h _ _ _ hb hc
/-- a step of one is a step of all. -/
theorem Stp.one {f : Fps} {a : Nat} {F' : Nat → Prop} {w w' : World} (h : Stp (f a) w w' F') : Stp f.tot w w' (f.upd a F').tot := by
  obtain ⟨⟨S, hS, kS⟩, h2⟩ := h
  refine ⟨⟨S, fun i hi => ⟨a, hS i hi⟩, kS⟩, fun i ⟨b, hb⟩ => ?_⟩
  rcases hb with ⟨rfl, hb⟩ | ⟨_, hb⟩
  · exact (h2 i hb).imp (fun h => ⟨_, h⟩) id
  · exact .inl ⟨b, hb⟩
/-- where they lie. -/
structure Fps.Ok (f : Fps) (w0 w : World) : Prop where
  kp : Kp [] w0 w
  ap : f.Apart
  rng : ∀ a i, f a i → w0.heap.size ≤ i ∧ i < w.heap.size
theorem Fps.Ok.on {f : Fps} {w0 w w' : World} (h : f.Ok w0 w) (k : Kp [] w w') : f.Ok w0 w' := ⟨h.kp.trans k, h.ap, fun a i hi => ⟨(h.rng a i hi).1, Nat.lt_of_lt_of_le (h.rng a i hi).2 k.size⟩⟩
theorem Fps.Ok.upd {f : Fps} {w0 w w' : World} {a : Nat} {F' : Nat → Prop} (h : f.Ok w0 w) (t : Stp (f a) w w' F') : (f.upd a F').Ok w0 w' := by
  refine ⟨t.base h.kp (fun i hi => (h.rng a i hi).1), h.ap.upd (N := w.heap.size) (fun i hi => (t.2 i hi).imp id And.left) (fun b i hi => (h.rng b i hi).2), fun b i hb => ?_⟩
  have hs := t.size
  have h0 := h.kp.size
  rcases hb with ⟨rfl, hb⟩ | ⟨_, hb⟩
  · rcases t.2 i hb with h1 | h1
    · have := h.rng _ i h1; omega
    · omega
  · have := h.rng b i hb; omega
/-- what lies in b stays while a takes a step. -/
theorem Fps.Ok.apart {f : Fps} {w0 w : World} (h : f.Ok w0 w) {a b : Nat} (hne : a ≠ b) {S : List Nat} (hS : ∀ i ∈ S, f a i) : ∀ i ∈ S, ¬ f b i := fun i hi hb => hne (h.ap a b i (hS i hi) hb)
end Go.Proofs.YtillhpgdlmeajaaGreatDoor

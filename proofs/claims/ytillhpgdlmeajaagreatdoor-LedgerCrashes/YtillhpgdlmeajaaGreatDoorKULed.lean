/-
  A ledger in memory: its block, its shelf, its journal, its box, its seed, what it published last; how it is kept.
-/
import Derived.Test.YtillhpgdlmeajaaGreatDoorKUShelf
import Derived.Test.YtillhpgdlmeajaaGreatDoorKUBox
import Derived.Test.YtillhpgdlmeajaaGreatDoorKURow
import Derived.Test.YtillhpgdlmeajaaGreatDoorKXProg
import Derived.Test.YtillhpgdlmeajaaGreatDoorKTSpec
namespace Go.Proofs.YtillhpgdlmeajaaGreatDoor
open Go.RowKit
open Go.Proofs
set_option linter.unusedVariables false

/-- the root over items. -/
def rtU (l : List (List Int)) : List Int := trootP (l.map tleafP)
/-- what was published of the first a.1 items, by the key a.2. -/
def sgU (seed : List Int) (l : List (List Int)) (a : Nat × Nat) : Sg := sgnC seed a.2 a.1 (rtU (l.take a.1))
/-- what a ledger is: items, how many keys are used, the seed, what was published last (size, key), both disks, bounds of the journals' counts. -/
structure LS where
  its : List (List Int)
  n : Nat
  seed : List Int
  la : Option (Nat × Nat)
  dd : Dk
  dk : Dk
  mj : Nat
  mb : Nat
/-- a signed checkpoint that stays so whatever becomes of other blocks than F. -/
def SgF (F : Nat → Prop) (w : World) (v : Value) (s : Sg) : Prop := ∀ (S : List Nat) (w2 : World), (∀ q ∈ S, ¬ F q) → Kp S w w2 → SgV w2 v s
theorem SgF.kept {F : Nat → Prop} {w w' : World} {v : Value} {s : Sg} {S : List Nat} (h : SgF F w v s) (k : Kp S w w') (hS : ∀ q ∈ S, ¬ F q) : SgF F w' v s := fun S2 w2 h2 k2 =>
  h (S ++ S2) w2 (fun q hq => (List.mem_append.1 hq).elim (hS q) (h2 q)) (k.comp k2)
theorem SgF.v {F : Nat → Prop} {w : World} {v : Value} {s : Sg} (h : SgF F w v s) : SgV w v s := h [] w (by simp) (Kp.refl _ _)
theorem SgA.f {b : Nat} {w w' : World} {v : Value} {s : Sg} (h : SgA b w v s) (k : Kp [] w w') : SgF (fun i => b ≤ i ∧ i < w'.heap.size) w' v s := fun S w2 hS k2 =>
  h (S.filter (fun i => decide (i < b))) w2 (fun q hq => of_decide_eq_true (List.mem_filter.1 hq).2) ((k.mono (by simp)).then k2 (fun i hi => by
    by_cases h1 : i < b
    · exact .inl (List.mem_filter.2 ⟨hi, decide_eq_true h1⟩)
    · have := hS i hi
      have := k.size
      exact .inr (by omega)))
/-- what was published last: nothing, or a block with a signed checkpoint. -/
def LaP (w : World) (pv : Value) (seed : List Int) (l : List (List Int)) (la : Option (Nat × Nat)) (F : Nat → Prop) : Prop := match la with
  | none => pv = .pointer none
  | some a => a.1 ≤ l.length ∧ a.2 < 16 ∧ ∃ t r p q, pv = .pointer (some ⟨t, 0, none⟩) ∧ F t ∧ Fv 72 w t (.int .i64 a.1) r (.int .i64 a.2) p q ∧ SgF F w (.agg #[.int .i64 a.1, r, .int .i64 a.2, p, q]) (sgU seed l a)
theorem LaP.kept {w w' : World} {pv : Value} {seed : List Int} {l : List (List Int)} {la : Option (Nat × Nat)} {F : Nat → Prop} {S : List Nat} (h : LaP w pv seed l la F) (k : Kp S w w') (hS : ∀ q ∈ S, ¬ F q) : LaP w' pv seed l la F := by
  cases la with
  | none => exact h
  | some a =>
    obtain ⟨h1, h2, t, r, p, q, e, h3, h4, h5⟩ := h
    exact ⟨h1, h2, t, r, p, q, e, h3, h4.kept k (fun hm => hS _ hm h3), h5.kept k hS⟩
theorem LaP.more {w : World} {pv : Value} {seed : List Int} {l t : List (List Int)} {la : Option (Nat × Nat)} {F : Nat → Prop} (h : LaP w pv seed l la F) : LaP w pv seed (l ++ t) la F := by
  cases la with
  | none => exact h
  | some a =>
    obtain ⟨h1, h2, tt, r, p, q, e, h3, h4, h5⟩ := h
    refine ⟨by rw [List.length_append]; omega, h2, tt, r, p, q, e, h3, h4, ?_⟩
    unfold sgU
    rw [List.take_append_of_le_length h1]
    exact h5
/-- The ledger at l, its disks at pd and pk: its journal at j, shelf at s, box at q, seed vs, what was published pv. 1 its block, 2 its seed, 3 what was published, 4 its shelf, 5 the journal, 6 the box. -/
structure LgX (w0 w : World) (l pd pk : Nat) (S : LS) (f : Fps) (j s q : Nat) (vs pv : Value) : Prop where
  ok : f.Ok w0 w
  at_ : Fv 99 w l (.func (.func 44) #[.pointer (some ⟨j, 0, none⟩)] #[]) (.pointer (some ⟨s, 0, none⟩)) (.pointer (some ⟨q, 0, none⟩)) vs pv
  f1 : f 1 l
  sd : Sl w vs S.seed
  f2 : ∀ k, vs.ownBlock = some k → f 2 k
  la : LaP w pv S.seed S.its S.la (f 3)
  sh : Sh w s S.its (f 4)
  jx : Jx w0 w pd S.dd j S.mj (f 5)
  bf : Bf w0 w pk S.dk q S.n S.mb (f 6)
  sl : S.seed.length = 32
  sb : Bs S.seed
  few : S.its.length ≤ 256
  nk : S.n ≤ 16
def Lg (w0 w : World) (l pd pk : Nat) (S : LS) (f : Fps) : Prop := ∃ j s q vs pv, LgX w0 w l pd pk S f j s q vs pv
/-- a step of the ledger: of it, all that lies in its blocks. -/
def LSt (w : World) (f : Fps) (w' : World) (f' : Fps) : Prop := Stp f.tot w w' f'.tot
theorem upd_ne {f : Fps} {a b : Nat} {F : Nat → Prop} (h : b ≠ a) : f.upd a F b = f b := funext fun i => propext ⟨fun e => by rcases e with ⟨e, _⟩ | ⟨_, e⟩; exact absurd e h; exact e, fun e => .inr ⟨h, e⟩⟩
theorem upd_eq {f : Fps} {a : Nat} {F : Nat → Prop} : f.upd a F a = F := funext fun i => propext ⟨fun e => by rcases e with ⟨_, e⟩ | ⟨e, _⟩; exact e; exact absurd rfl e, fun e => .inl ⟨rfl, e⟩⟩
section
variable {w0 w w' : World} {l pd pk j s q : Nat} {S : LS} {f : Fps} {vs pv : Value}
/-- what lies elsewhere is written. -/
theorem LgX.beside (h : LgX w0 w l pd pk S f j s q vs pv) {T : List Nat} (k : Kp T w w') (hT : ∀ i ∈ T, w0.heap.size ≤ i ∧ ¬ f.tot i) : LgX w0 w' l pd pk S f j s q vs pv := by
  have k0 : Kp [] w0 w' := h.ok.kp.then k (fun i hi => .inr (hT i hi).1)
  have no : ∀ a, ∀ i ∈ T, ¬ f a i := fun a i hi ha => (hT i hi).2 ⟨a, ha⟩
  exact ⟨⟨k0, h.ok.ap, fun a i hi => ⟨(h.ok.rng a i hi).1, Nat.lt_of_lt_of_le (h.ok.rng a i hi).2 k.size⟩⟩, h.at_.kept k (fun hm => no 1 _ hm h.f1), h.f1, h.sd.kept k (fun i hi hm => no 2 i hm (h.f2 i hi)), h.f2, h.la.kept k (no 3), h.sh.kept k (no 4), h.jx.kept k k0 (no 5), h.bf.kept k k0 (no 6), h.sl, h.sb, h.few, h.nk⟩
theorem LgX.on (h : LgX w0 w l pd pk S f j s q vs pv) (k : Kp [] w w') : LgX w0 w' l pd pk S f j s q vs pv := h.beside k (by simp)
/-- the journal takes a step. -/
theorem LgX.stepJ {F' : Nat → Prop} {dd' : Dk} {mj' : Nat} (h : LgX w0 w l pd pk S f j s q vs pv) (t : Stp (f 5) w w' F') (g : Jx w0 w' pd dd' j mj' F') : LgX w0 w' l pd pk { S with dd := dd', mj := mj' } (f.upd 5 F') j s q vs pv := by
  obtain ⟨T, hT, k⟩ := t.kp
  have o := h.ok.upd t
  have no : ∀ b, 5 ≠ b → ∀ i ∈ T, ¬ f b i := fun b hb => h.ok.apart hb hT
  refine ⟨o, h.at_.kept k (fun hm => no 1 (by decide) _ hm h.f1), ?_, h.sd.kept k (fun i hi hm => no 2 (by decide) i hm (h.f2 i hi)), ?_, ?_, ?_, ?_, ?_, h.sl, h.sb, h.few, h.nk⟩
  · rw [upd_ne (by decide)]; exact h.f1
  · rw [upd_ne (by decide)]; exact h.f2
  · rw [upd_ne (by decide)]; exact h.la.kept k (no 3 (by decide))
  · rw [upd_ne (by decide)]; exact h.sh.kept k (no 4 (by decide))
  · rw [upd_eq]; exact g
  · rw [upd_ne (by decide)]; exact h.bf.kept k o.kp (no 6 (by decide))
/-- the box takes a step. -/
theorem LgX.stepB {F' : Nat → Prop} {dk' : Dk} {mk' n' : Nat} (h : LgX w0 w l pd pk S f j s q vs pv) (t : Stp (f 6) w w' F') (g : Bf w0 w' pk dk' q n' mk' F') (hn : n' ≤ 16) : LgX w0 w' l pd pk { S with dk := dk', mb := mk', n := n' } (f.upd 6 F') j s q vs pv := by
  obtain ⟨T, hT, k⟩ := t.kp
  have o := h.ok.upd t
  have no : ∀ b, 6 ≠ b → ∀ i ∈ T, ¬ f b i := fun b hb => h.ok.apart hb hT
  refine ⟨o, h.at_.kept k (fun hm => no 1 (by decide) _ hm h.f1), ?_, h.sd.kept k (fun i hi hm => no 2 (by decide) i hm (h.f2 i hi)), ?_, ?_, ?_, ?_, ?_, h.sl, h.sb, h.few, hn⟩
  · rw [upd_ne (by decide)]; exact h.f1
  · rw [upd_ne (by decide)]; exact h.f2
  · rw [upd_ne (by decide)]; exact h.la.kept k (no 3 (by decide))
  · rw [upd_ne (by decide)]; exact h.sh.kept k (no 4 (by decide))
  · rw [upd_ne (by decide)]; exact h.jx.kept k o.kp (no 5 (by decide))
  · rw [upd_eq]; exact g
/-- the shelf takes a step. -/
theorem LgX.stepS {F' : Nat → Prop} {x : List (List Int)} (h : LgX w0 w l pd pk S f j s q vs pv) (t : Stp (f 4) w w' F') (g : Sh w' s (S.its ++ x) F') (hn : (S.its ++ x).length ≤ 256) : LgX w0 w' l pd pk { S with its := S.its ++ x } (f.upd 4 F') j s q vs pv := by
  obtain ⟨T, hT, k⟩ := t.kp
  have o := h.ok.upd t
  have no : ∀ b, 4 ≠ b → ∀ i ∈ T, ¬ f b i := fun b hb => h.ok.apart hb hT
  refine ⟨o, h.at_.kept k (fun hm => no 1 (by decide) _ hm h.f1), ?_, h.sd.kept k (fun i hi hm => no 2 (by decide) i hm (h.f2 i hi)), ?_, ?_, ?_, ?_, ?_, h.sl, h.sb, hn, h.nk⟩
  · rw [upd_ne (by decide)]; exact h.f1
  · rw [upd_ne (by decide)]; exact h.f2
  · rw [upd_ne (by decide)]; exact (h.la.kept k (no 3 (by decide))).more
  · rw [upd_eq]; exact g
  · rw [upd_ne (by decide)]; exact h.jx.kept k o.kp (no 5 (by decide))
  · rw [upd_ne (by decide)]; exact h.bf.kept k o.kp (no 6 (by decide))
/-- something new is published: its block is made, and the ledger's cell is written. -/
theorem LgX.stepL {F' : Nat → Prop} {a : Nat × Nat} {pv' : Value} {w1 : World} (h : LgX w0 w l pd pk S f j s q vs pv) (k : Kp [] w w1) (hF : ∀ i, F' i → w.heap.size ≤ i ∧ i < w1.heap.size) (g : LaP w1 pv' S.seed S.its (some a) F') : LgX w0 (w1.setCell ⟨l, 4, none⟩ pv') l pd pk { S with la := some a } (f.upd 3 F') j s q vs pv' ∧ Stp f.tot w (w1.setCell ⟨l, 4, none⟩ pv') (f.upd 3 F').tot := by
  have h1 := h.on k
  have ks : Kp [l] w1 (w1.setCell ⟨l, 4, none⟩ pv') := kp_set w1 l 4 _
  have hsz : (w1.setCell ⟨l, 4, none⟩ pv').heap.size = w1.heap.size := by simp [World.setCell]
  have hl := h.ok.rng 1 l h.f1
  have t3 : Stp (f 3) w w1 F' := ⟨⟨[], by simp, k⟩, fun i hi => .inr (hF i hi)⟩
  have o1 := h.ok.upd t3
  have k0 : Kp [] w0 (w1.setCell ⟨l, 4, none⟩ pv') := o1.kp.then ks (fun i hi => .inr (by simp at hi; omega))
  have no : ∀ b, 1 ≠ b → ∀ i ∈ [l], ¬ f b i := fun b hb i hi => by simp at hi; subst hi; exact fun e => hb (h.ok.ap 1 b _ h.f1 e)
  have noF : ∀ i ∈ [l], ¬ F' i := fun i hi e => by simp at hi; subst hi; have := hF _ e; omega
  refine ⟨⟨⟨k0, o1.ap, fun b i hi => by rw [hsz]; exact o1.rng b i hi⟩, h1.at_.s4 pv', ?_, h1.sd.kept ks (fun i hi hm => no 2 (by decide) i hm (h1.f2 i hi)), ?_, ?_, ?_, ?_, ?_, h.sl, h.sb, h.few, h.nk⟩, ?_⟩
  · rw [upd_ne (by decide)]; exact h.f1
  · rw [upd_ne (by decide)]; exact h.f2
  · rw [upd_eq]; exact g.kept ks noF
  · rw [upd_ne (by decide)]; exact h1.sh.kept ks (no 4 (by decide))
  · rw [upd_ne (by decide)]; exact h1.jx.kept ks k0 (no 5 (by decide))
  · rw [upd_ne (by decide)]; exact h1.bf.kept ks k0 (no 6 (by decide))
  · refine ⟨⟨[l], fun i hi => by simp at hi; subst hi; exact ⟨1, h.f1⟩, (k.mono (by simp)).trans ks⟩, fun i ⟨b, hb⟩ => ?_⟩
    rcases hb with ⟨rfl, hb⟩ | ⟨_, hb⟩
    · exact .inr (by rw [hsz]; exact hF i hb)
    · exact .inl ⟨b, hb⟩
theorem Lg.on (h : Lg w0 w l pd pk S f) (k : Kp [] w w') : Lg w0 w' l pd pk S f := by
  obtain ⟨j, s, q, vs, pv, h⟩ := h
  exact ⟨j, s, q, vs, pv, h.on k⟩
theorem Lg.beside (h : Lg w0 w l pd pk S f) {T : List Nat} (k : Kp T w w') (hT : ∀ i ∈ T, w0.heap.size ≤ i ∧ ¬ f.tot i) : Lg w0 w' l pd pk S f := by
  obtain ⟨j, s, q, vs, pv, h⟩ := h
  exact ⟨j, s, q, vs, pv, h.beside k hT⟩
theorem Lg.kp (h : Lg w0 w l pd pk S f) : Kp [] w0 w := by obtain ⟨j, s, q, vs, pv, h⟩ := h; exact h.ok.kp
theorem Lg.nd (h : Lg w0 w l pd pk S f) : S.its.Nodup := by obtain ⟨j, s, q, vs, pv, h⟩ := h; exact h.sh.nd
theorem Lg.bs (h : Lg w0 w l pd pk S f) : ∀ x ∈ S.its, Bs x ∧ x.length ≤ 65535 := by obtain ⟨j, s, q, vs, pv, h⟩ := h; exact h.sh.bs
theorem Lg.few (h : Lg w0 w l pd pk S f) : S.its.length ≤ 256 := by obtain ⟨j, s, q, vs, pv, h⟩ := h; exact h.few
theorem Lg.nk (h : Lg w0 w l pd pk S f) : S.n ≤ 16 := by obtain ⟨j, s, q, vs, pv, h⟩ := h; exact h.nk
theorem Lg.lt (h : Lg w0 w l pd pk S f) : ∀ i, f.tot i → w0.heap.size ≤ i ∧ i < w.heap.size := fun i ⟨a, ha⟩ => by obtain ⟨j, s, q, vs, pv, h⟩ := h; exact h.ok.rng a i ha
theorem Lg.base {f' : Fps} (h : Lg w0 w l pd pk S f) (t : LSt w f w' f') : Kp [] w0 w' := t.base h.kp (fun i hi => (h.lt i hi).1)
end
end Go.Proofs.YtillhpgdlmeajaaGreatDoor

/-
  Chapter 6 as plain functions: where a row of leaves is parted, leaves, nodes, the root.
-/
import Derived.Lib.BitFns
import Derived.Test.YtillhpgdlmeajabGreatDoorQB1
import Derived.Test.YtillhpgdlmeajabGreatDoorQB2
import Derived.Test.YtillhpgdlmeajabGreatDoorQB3
import Derived.Test.YtillhpgdlmeajabGreatDoorQB4
import Derived.Lib.Slices
import Derived.Lib.Small
import Derived.Lib.Strings
import Derived.Lib.Walk
import Derived.Deep.AppendSrc
import Derived.Deep.RegionHeld3
namespace Go.Proofs.YtillhpgdlmeajabGreatDoor
/-- the greatest power of two below n; 0 of n below 2. -/
def tsplP (n : Nat) : Nat := if n < 2 then 0 else 2 ^ (n - 1).log2
theorem tsplP_small {n : Nat} (h : n < 2) : tsplP n = 0 := if_pos h
theorem tsplP_more {n : Nat} (h : 2 ≤ n) : tsplP n = 2 ^ (n - 1).log2 := if_neg (by omega)
theorem tsplP_pos {n : Nat} (h : 2 ≤ n) : 1 ≤ tsplP n := by rw [tsplP_more h]; exact Nat.one_le_two_pow
theorem tsplP_lt {n : Nat} (h : 2 ≤ n) : tsplP n < n := by
  rw [tsplP_more h]
  have := Nat.log2_self_le (n := n - 1) (by omega)
  omega
/-- the library's length of a number in bits. -/
theorem bitLen_log : ∀ (f x : Nat), x < 2 ^ f → f ≤ 64 → 1 ≤ x → Lib.bitLen x = x.log2 + 1
  | 0, x, h, _, h1 => by simp at h; omega
  | f + 1, x, h, hf, h1 => by
    have h64 : (2 : Nat) ^ (f + 1) ≤ 2 ^ 64 := Nat.pow_le_pow_right (by omega) hf
    rw [Lib.bitLen_half x (by omega) (by omega)]
    by_cases h2 : x = 1
    · subst h2; decide
    · rw [bitLen_log f (x / 2) (by rw [Nat.pow_succ] at h; omega) (by omega) (by omega)]
      rw [show x.log2 = (x / 2).log2 + 1 by rw [Nat.log2_def x, if_pos (by omega)]]
      omega
def tleafP (b : List Int) : List Int := sha (0 :: b)
def tnodeP (a b : List Int) : List Int := sha (1 :: (a ++ b))
/-- the root of leaves, fewer than f. -/
def trootF : Nat → List (List Int) → List Int
  | 0, _ => sha []
  | f + 1, ls =>
    if 2 ≤ ls.length then tnodeP (trootF f (ls.take (tsplP ls.length))) (trootF f (ls.drop (tsplP ls.length)))
    else match ls with
      | [] => sha []
      | x :: _ => x
theorem trootF_eq : ∀ (f g : Nat) (ls : List (List Int)), ls.length < f → ls.length < g → trootF f ls = trootF g ls
  | 0, _, _, h, _ => absurd h (Nat.not_lt_zero _)
  | _ + 1, 0, _, _, h => absurd h (Nat.not_lt_zero _)
  | f + 1, g + 1, ls, hf, hg => by
    by_cases h : 2 ≤ ls.length
    · have h1 := tsplP_lt h
      have h2 := tsplP_pos h
      show (if 2 ≤ ls.length then _ else _) = (if 2 ≤ ls.length then _ else _)
      rw [if_pos h, if_pos h, trootF_eq f g (ls.take (tsplP ls.length)) (by rw [List.length_take]; omega) (by rw [List.length_take]; omega), trootF_eq f g (ls.drop (tsplP ls.length)) (by rw [List.length_drop]; omega) (by rw [List.length_drop]; omega)]
    · show (if 2 ≤ ls.length then _ else _) = (if 2 ≤ ls.length then _ else _)
      rw [if_neg h, if_neg h]
/-- the root of leaves. -/
def trootP (ls : List (List Int)) : List Int := trootF (ls.length + 1) ls
theorem trootP_nil : trootP [] = sha [] := rfl
theorem trootP_one (x : List Int) : trootP [x] = x := rfl
theorem trootP_more {ls : List (List Int)} (h : 2 ≤ ls.length) : trootP ls = tnodeP (trootP (ls.take (tsplP ls.length))) (trootP (ls.drop (tsplP ls.length))) := by
  have h1 := tsplP_lt h
  have h2 := tsplP_pos h
  show (if 2 ≤ ls.length then _ else _) = _
  rw [if_pos h]
  unfold trootP
  rw [trootF_eq ls.length ((ls.take (tsplP ls.length)).length + 1) (ls.take (tsplP ls.length)) (by rw [List.length_take]; omega) (by omega), trootF_eq ls.length ((ls.drop (tsplP ls.length)).length + 1) (ls.drop (tsplP ls.length)) (by rw [List.length_drop]; omega) (by omega)]
theorem trootP_all (Q : List Int → Prop) (hs : ∀ bs, Q (sha bs)) (ls : List (List Int)) (h : ∀ x ∈ ls, Q x) : Q (trootP ls) := by
  match ls with
  | [] => rw [trootP_nil]; exact hs _
  | [x] => rw [trootP_one]; exact h x (by simp)
  | x :: y :: r => rw [trootP_more (by simp)]; exact hs _
theorem trootP_bs (ls : List (List Int)) (h : ∀ x ∈ ls, Bs x) : Bs (trootP ls) := trootP_all Bs sha_bs ls h
theorem trootP_le (n : Nat) (hn : 32 ≤ n) (ls : List (List Int)) (h : ∀ x ∈ ls, x.length ≤ n) : (trootP ls).length ≤ n := trootP_all (fun x => x.length ≤ n) (fun bs => by show (sha bs).length ≤ n; rw [sha_len]; omega) ls h
end Go.Proofs.YtillhpgdlmeajabGreatDoor

/-
  A ledger in memory: its block, its shelf, its journal, its box, its seed, what it published last; how it is kept.
-/
namespace Go.Proofs.YtillhpgdlmeajabGreatDoor
open Go.RowKit
open Go.Proofs
set_option linter.unusedVariables false
/-- the root over items. -/
def rtU (l : List (List Int)) : List Int := trootP (l.map tleafP)
/-- what was published of the first a.1 items, by the key a.2. -/
def sgU (seed : List Int) (l : List (List Int)) (a : Nat × Nat) : Sg := sgnC seed a.2 a.1 (rtU (l.take a.1))
/-- what a ledger is: items, how many keys are used, the seed, what was published last (size, key), both disks, bounds of the journals' counts. -/
structure LS where
  its : List (List Int)
  n : Nat
  seed : List Int
  la : Option (Nat × Nat)
  dd : Dk
  dk : Dk
  mj : Nat
  mb : Nat
/-- a signed checkpoint that stays so whatever becomes of other blocks than F. -/
def SgF (F : Nat → Prop) (w : World) (v : Value) (s : Sg) : Prop := ∀ (S : List Nat) (w2 : World), (∀ q ∈ S, ¬ F q) → Kp S w w2 → SgV w2 v s
theorem SgF.kept {F : Nat → Prop} {w w' : World} {v : Value} {s : Sg} {S : List Nat} (h : SgF F w v s) (k : Kp S w w') (hS : ∀ q ∈ S, ¬ F q) : SgF F w' v s := fun S2 w2 h2 k2 =>
  h (S ++ S2) w2 (fun q hq => (List.mem_append.1 hq).elim (hS q) (h2 q)) (k.comp k2)
theorem SgF.v {F : Nat → Prop} {w : World} {v : Value} {s : Sg} (h : SgF F w v s) : SgV w v s := h [] w (by simp) (Kp.refl _ _)
theorem SgA.f {b : Nat} {w w' : World} {v : Value} {s : Sg} (h : SgA b w v s) (k : Kp [] w w') : SgF (fun i => b ≤ i ∧ i < w'.heap.size) w' v s := fun S w2 hS k2 =>
  h (S.filter (fun i => decide (i < b))) w2 (fun q hq => of_decide_eq_true (List.mem_filter.1 hq).2) ((k.mono (by simp)).then k2 (fun i hi => by
    by_cases h1 : i < b
    · exact .inl (List.mem_filter.2 ⟨hi, decide_eq_true h1⟩)
    · have := hS i hi
      have := k.size
      exact .inr (by omega)))
/-- what was published last: nothing, or a block with a signed checkpoint. -/
def LaP (w : World) (pv : Value) (seed : List Int) (l : List (List Int)) (la : Option (Nat × Nat)) (F : Nat → Prop) : Prop := match la with
  | none => pv = .pointer none
  | some a => a.1 ≤ l.length ∧ a.2 < 16 ∧ ∃ t r p q, pv = .pointer (some ⟨t, 0, none⟩) ∧ F t ∧ Fv 54 w t (.int .i64 a.1) r (.int .i64 a.2) p q ∧ SgF F w (.agg #[.int .i64 a.1, r, .int .i64 a.2, p, q]) (sgU seed l a)
theorem LaP.kept {w w' : World} {pv : Value} {seed : List Int} {l : List (List Int)} {la : Option (Nat × Nat)} {F : Nat → Prop} {S : List Nat} (h : LaP w pv seed l la F) (k : Kp S w w') (hS : ∀ q ∈ S, ¬ F q) : LaP w' pv seed l la F := by
  cases la with
  | none => exact h
  | some a =>
    obtain ⟨h1, h2, t, r, p, q, e, h3, h4, h5⟩ := h
    exact ⟨h1, h2, t, r, p, q, e, h3, h4.kept k (fun hm => hS _ hm h3), h5.kept k hS⟩
theorem LaP.more {w : World} {pv : Value} {seed : List Int} {l t : List (List Int)} {la : Option (Nat × Nat)} {F : Nat → Prop} (h : LaP w pv seed l la F) : LaP w pv seed (l ++ t) la F := by
  cases la with
  | none => exact h
  | some a =>
    obtain ⟨h1, h2, tt, r, p, q, e, h3, h4, h5⟩ := h
    refine ⟨by rw [List.length_append]; omega, h2, tt, r, p, q, e, h3, h4, ?_⟩
    unfold sgU
    rw [List.take_append_of_le_length h1]
    exact h5
/-- The ledger at l, its disks at pd and pk: its journal at j, shelf at s, box at q, seed vs, what was published pv. 1 its block, 2 its seed, 3 what was published, 4 its shelf, 5 the journal, 6 the box. -/
structure LgX (w0 w : World) (l pd pk : Nat) (S : LS) (f : Fps) (j s q : Nat) (vs pv : Value) : Prop where
  ok : f.Ok w0 w
  at_ : Fv 74 w l (.func (.func 28) #[.pointer (some ⟨j, 0, none⟩)] #[]) (.pointer (some ⟨s, 0, none⟩)) (.pointer (some ⟨q, 0, none⟩)) vs pv
  f1 : f 1 l
  sd : Sl w vs S.seed
  f2 : ∀ k, vs.ownBlock = some k → f 2 k
  la : LaP w pv S.seed S.its S.la (f 3)
  sh : Sh w s S.its (f 4)
  jx : Jx w0 w pd S.dd j S.mj (f 5)
  bf : Bf w0 w pk S.dk q S.n S.mb (f 6)
  sl : S.seed.length = 32
  sb : Bs S.seed
  few : S.its.length ≤ 256
  nk : S.n ≤ 16
def Lg (w0 w : World) (l pd pk : Nat) (S : LS) (f : Fps) : Prop := ∃ j s q vs pv, LgX w0 w l pd pk S f j s q vs pv
/-- a step of the ledger: of it, all that lies in its blocks. -/
def LSt (w : World) (f : Fps) (w' : World) (f' : Fps) : Prop := Stp f.tot w w' f'.tot
theorem upd_ne {f : Fps} {a b : Nat} {F : Nat → Prop} (h : b ≠ a) : f.upd a F b = f b := funext fun i => propext ⟨fun e => by rcases e with ⟨e, _⟩ | ⟨_, e⟩; exact absurd e h; exact e, fun e => .inr ⟨h, e⟩⟩
theorem upd_eq {f : Fps} {a : Nat} {F : Nat → Prop} : f.upd a F a = F := funext fun i => propext ⟨fun e => by rcases e with ⟨_, e⟩ | ⟨e, _⟩; exact e; exact absurd rfl e, fun e => .inl ⟨rfl, e⟩⟩
section
variable {w0 w w' : World} {l pd pk j s q : Nat} {S : LS} {f : Fps} {vs pv : Value}
/-- what lies elsewhere is written. -/
theorem LgX.beside (h : LgX w0 w l pd pk S f j s q vs pv) {T : List Nat} (k : Kp T w w') (hT : ∀ i ∈ T, w0.heap.size ≤ i ∧ ¬ f.tot i) : LgX w0 w' l pd pk S f j s q vs pv := by
  have k0 : Kp [] w0 w' := h.ok.kp.then k (fun i hi => .inr (hT i hi).1)
  have no : ∀ a, ∀ i ∈ T, ¬ f a i := fun a i hi ha => (hT i hi).2 ⟨a, ha⟩
  exact ⟨⟨k0, h.ok.ap, fun a i hi => ⟨(h.ok.rng a i hi).1, Nat.lt_of_lt_of_le (h.ok.rng a i hi).2 k.size⟩⟩, h.at_.kept k (fun hm => no 1 _ hm h.f1), h.f1, h.sd.kept k (fun i hi hm => no 2 i hm (h.f2 i hi)), h.f2, h.la.kept k (no 3), h.sh.kept k (no 4), h.jx.kept k k0 (no 5), h.bf.kept k k0 (no 6), h.sl, h.sb, h.few, h.nk⟩
theorem LgX.on (h : LgX w0 w l pd pk S f j s q vs pv) (k : Kp [] w w') : LgX w0 w' l pd pk S f j s q vs pv := h.beside k (by simp)
/-- the journal takes a step. -/
theorem LgX.stepJ {F' : Nat → Prop} {dd' : Dk} {mj' : Nat} (h : LgX w0 w l pd pk S f j s q vs pv) (t : Stp (f 5) w w' F') (g : Jx w0 w' pd dd' j mj' F') : LgX w0 w' l pd pk { S with dd := dd', mj := mj' } (f.upd 5 F') j s q vs pv := by
  obtain ⟨T, hT, k⟩ := t.kp
  have o := h.ok.upd t
  have no : ∀ b, 5 ≠ b → ∀ i ∈ T, ¬ f b i := fun b hb => h.ok.apart hb hT
  refine ⟨o, h.at_.kept k (fun hm => no 1 (by decide) _ hm h.f1), ?_, h.sd.kept k (fun i hi hm => no 2 (by decide) i hm (h.f2 i hi)), ?_, ?_, ?_, ?_, ?_, h.sl, h.sb, h.few, h.nk⟩
  · rw [upd_ne (by decide)]; exact h.f1
  · rw [upd_ne (by decide)]; exact h.f2
  · rw [upd_ne (by decide)]; exact h.la.kept k (no 3 (by decide))
  · rw [upd_ne (by decide)]; exact h.sh.kept k (no 4 (by decide))
  · rw [upd_eq]; exact g
  · rw [upd_ne (by decide)]; exact h.bf.kept k o.kp (no 6 (by decide))
/-- the box takes a step. -/
theorem LgX.stepB {F' : Nat → Prop} {dk' : Dk} {mk' n' : Nat} (h : LgX w0 w l pd pk S f j s q vs pv) (t : Stp (f 6) w w' F') (g : Bf w0 w' pk dk' q n' mk' F') (hn : n' ≤ 16) : LgX w0 w' l pd pk { S with dk := dk', mb := mk', n := n' } (f.upd 6 F') j s q vs pv := by
  obtain ⟨T, hT, k⟩ := t.kp
  have o := h.ok.upd t
  have no : ∀ b, 6 ≠ b → ∀ i ∈ T, ¬ f b i := fun b hb => h.ok.apart hb hT
  refine ⟨o, h.at_.kept k (fun hm => no 1 (by decide) _ hm h.f1), ?_, h.sd.kept k (fun i hi hm => no 2 (by decide) i hm (h.f2 i hi)), ?_, ?_, ?_, ?_, ?_, h.sl, h.sb, h.few, hn⟩
  · rw [upd_ne (by decide)]; exact h.f1
  · rw [upd_ne (by decide)]; exact h.f2
  · rw [upd_ne (by decide)]; exact h.la.kept k (no 3 (by decide))
  · rw [upd_ne (by decide)]; exact h.sh.kept k (no 4 (by decide))
  · rw [upd_ne (by decide)]; exact h.jx.kept k o.kp (no 5 (by decide))
  · rw [upd_eq]; exact g
/-- the shelf takes a step. -/
theorem LgX.stepS {F' : Nat → Prop} {x : List (List Int)} (h : LgX w0 w l pd pk S f j s q vs pv) (t : Stp (f 4) w w' F') (g : Sh w' s (S.its ++ x) F') (hn : (S.its ++ x).length ≤ 256) : LgX w0 w' l pd pk { S with its := S.its ++ x } (f.upd 4 F') j s q vs pv := by
  obtain ⟨T, hT, k⟩ := t.kp
  have o := h.ok.upd t
  have no : ∀ b, 4 ≠ b → ∀ i ∈ T, ¬ f b i := fun b hb => h.ok.apart hb hT
  refine ⟨o, h.at_.kept k (fun hm => no 1 (by decide) _ hm h.f1), ?_, h.sd.kept k (fun i hi hm => no 2 (by decide) i hm (h.f2 i hi)), ?_, ?_, ?_, ?_, ?_, h.sl, h.sb, hn, h.nk⟩
  · rw [upd_ne (by decide)]; exact h.f1
  · rw [upd_ne (by decide)]; exact h.f2
  · rw [upd_ne (by decide)]; exact (h.la.kept k (no 3 (by decide))).more
  · rw [upd_eq]; exact g
  · rw [upd_ne (by decide)]; exact h.jx.kept k o.kp (no 5 (by decide))
  · rw [upd_ne (by decide)]; exact h.bf.kept k o.kp (no 6 (by decide))
/-- something new is published: its block is made, and the ledger's cell is written. -/
theorem LgX.stepL {F' : Nat → Prop} {a : Nat × Nat} {pv' : Value} {w1 : World} (h : LgX w0 w l pd pk S f j s q vs pv) (k : Kp [] w w1) (hF : ∀ i, F' i → w.heap.size ≤ i ∧ i < w1.heap.size) (g : LaP w1 pv' S.seed S.its (some a) F') : LgX w0 (w1.setCell ⟨l, 4, none⟩ pv') l pd pk { S with la := some a } (f.upd 3 F') j s q vs pv' ∧ Stp f.tot w (w1.setCell ⟨l, 4, none⟩ pv') (f.upd 3 F').tot := by
  have h1 := h.on k
  have ks : Kp [l] w1 (w1.setCell ⟨l, 4, none⟩ pv') := kp_set w1 l 4 _
  have hsz : (w1.setCell ⟨l, 4, none⟩ pv').heap.size = w1.heap.size := by simp [World.setCell]
  have hl := h.ok.rng 1 l h.f1
  have t3 : Stp (f 3) w w1 F' := ⟨⟨[], by simp, k⟩, fun i hi => .inr (hF i hi)⟩
  have o1 := h.ok.upd t3
  have k0 : Kp [] w0 (w1.setCell ⟨l, 4, none⟩ pv') := o1.kp.then ks (fun i hi => .inr (by simp at hi; omega))
  have no : ∀ b, 1 ≠ b → ∀ i ∈ [l], ¬ f b i := fun b hb i hi => by simp at hi; subst hi; exact fun e => hb (h.ok.ap 1 b _ h.f1 e)
  have noF : ∀ i ∈ [l], ¬ F' i := fun i hi e => by simp at hi; subst hi; have := hF _ e; omega
  refine ⟨⟨⟨k0, o1.ap, fun b i hi => by rw [hsz]; exact o1.rng b i hi⟩, h1.at_.s4 pv', ?_, h1.sd.kept ks (fun i hi hm => no 2 (by decide) i hm (h1.f2 i hi)), ?_, ?_, ?_, ?_, ?_, h.sl, h.sb, h.few, h.nk⟩, ?_⟩
  · rw [upd_ne (by decide)]; exact h.f1
  · rw [upd_ne (by decide)]; exact h.f2
  · rw [upd_eq]; exact g.kept ks noF
  · rw [upd_ne (by decide)]; exact h1.sh.kept ks (no 4 (by decide))
  · rw [upd_ne (by decide)]; exact h1.jx.kept ks k0 (no 5 (by decide))
  · rw [upd_ne (by decide)]; exact h1.bf.kept ks k0 (no 6 (by decide))
  · refine ⟨⟨[l], fun i hi => by simp at hi; subst hi; exact ⟨1, h.f1⟩, (k.mono (by simp)).trans ks⟩, fun i ⟨b, hb⟩ => ?_⟩
    rcases hb with ⟨rfl, hb⟩ | ⟨_, hb⟩
    · exact .inr (by rw [hsz]; exact hF i hb)
    · exact .inl ⟨b, hb⟩
theorem Lg.on (h : Lg w0 w l pd pk S f) (k : Kp [] w w') : Lg w0 w' l pd pk S f := by
  obtain ⟨j, s, q, vs, pv, h⟩ := h
  exact ⟨j, s, q, vs, pv, h.on k⟩
theorem Lg.beside (h : Lg w0 w l pd pk S f) {T : List Nat} (k : Kp T w w') (hT : ∀ i ∈ T, w0.heap.size ≤ i ∧ ¬ f.tot i) : Lg w0 w' l pd pk S f := by
  obtain ⟨j, s, q, vs, pv, h⟩ := h
  exact ⟨j, s, q, vs, pv, h.beside k hT⟩
theorem Lg.kp (h : Lg w0 w l pd pk S f) : Kp [] w0 w := by obtain ⟨j, s, q, vs, pv, h⟩ := h; exact h.ok.kp
theorem Lg.nd (h : Lg w0 w l pd pk S f) : S.its.Nodup := by obtain ⟨j, s, q, vs, pv, h⟩ := h; exact h.sh.nd
theorem Lg.bs (h : Lg w0 w l pd pk S f) : ∀ x ∈ S.its, Bs x ∧ x.length ≤ 65535 := by obtain ⟨j, s, q, vs, pv, h⟩ := h; exact h.sh.bs
theorem Lg.few (h : Lg w0 w l pd pk S f) : S.its.length ≤ 256 := by obtain ⟨j, s, q, vs, pv, h⟩ := h; exact h.few
theorem Lg.nk (h : Lg w0 w l pd pk S f) : S.n ≤ 16 := by obtain ⟨j, s, q, vs, pv, h⟩ := h; exact h.nk
theorem Lg.lt (h : Lg w0 w l pd pk S f) : ∀ i, f.tot i → w0.heap.size ≤ i ∧ i < w.heap.size := fun i ⟨a, ha⟩ => by obtain ⟨j, s, q, vs, pv, h⟩ := h; exact h.ok.rng a i ha
theorem Lg.base {f' : Fps} (h : Lg w0 w l pd pk S f) (t : LSt w f w' f') : Kp [] w0 w' := t.base h.kp (fun i hi => (h.lt i hi).1)
end
end Go.Proofs.YtillhpgdlmeajabGreatDoor

/-
  The contracts of package ledger: Size, numbered, keep, Add.
-/
namespace Go.Proofs.YtillhpgdlmeajabGreatDoor
open Go.RowKit
open Go.Proofs
set_option linter.unusedVariables false
section
variable {w0 w : World} {l pd pk : Nat} {S : LS} {f : Fps}
theorem usize_any (h : Lg w0 w l pd pk S f) (n : Int) (hn : n = S.its.length) : Calls Tryz.prog 11 #[.pointer (some ⟨l, 0, none⟩)] w fun e w' => e = .returned (.int .i64 n) ∧ w' = w := by
  obtain ⟨j, s, q, vs, pv, h⟩ := h
  have hc := h.at_.c1
  have HZ := hide (ssize_any h.sh n hn)
  clear h hn
  go_enter Tryz.func11, Tryz.ntmps11
  go_wp2_with fail
  refine HZ.out.mono ?_
  rintro ee w1 ⟨rfl, hw⟩
  subst w1
  clear HZ
  go_wp2_with fail
  go_ret
  exact ⟨rfl, rfl⟩
/-- numbers as the program tells them. -/
def nsU (its xs : List (List Int)) : List Int := (numU its xs).map (fun (n : Nat) => (n : Int))
theorem nsU_snoc (its xs : List (List Int)) (x : List Int) : nsU its (xs ++ [x]) = nsU its xs ++ [((allU its xs).idxOf x : Int)] := by unfold nsU; rw [numU_snoc, List.map_append]; rfl
theorem nsU_len (its xs : List (List Int)) : (nsU its xs).length = xs.length := by simp [nsU, numU]
set_option maxRecDepth 100000 in
set_option maxHeartbeats 4000000 in
theorem numbered_any (h : Lg w0 w l pd pk S f) (vi : Value) (li : List (Value × List Int)) (xs : List (List Int)) (hxs : li.map (·.2) = xs) (hL : Lists w vi li) (hl : ∀ x ∈ xs, x.length ≤ 65535) (hn : xs.length ≤ 1000) :
    Calls Tryz.prog 32 #[.pointer (some ⟨l, 0, none⟩), vi] w fun e w' => ∃ ao m c s2, e = .returned (.tuple #[.slice ao m c, .pointer (some ⟨s2, 0, none⟩)]) ∧ RowI w' w.heap.size (.slice ao m c) (nsU S.its xs) ∧ Kp [] w w' ∧ ∃ F, Sh w' s2 (newU S.its xs) F ∧ (∀ i, F i → w.heap.size ≤ i ∧ i < w'.heap.size) := by
  have hB : ∀ x ∈ xs, Bs x := fun x hx => by
    obtain ⟨y, hy, rfl⟩ := List.mem_map.1 (hxs ▸ hx)
    exact hL.bs y hy
  obtain ⟨al, cl, rfl, hl0, hcell⟩ := hL
  obtain ⟨N, hN⟩ : ∃ N, N = li.length := ⟨_, rfl⟩
  have hxl : xs.length = N := by rw [← hxs, hN]; simp
  have hget : ∀ i (hi : i < N), ∃ (hi2 : i < xs.length), ∃ b off, al = some ⟨b, off, none⟩ ∧ ∃ u, w.cell? ⟨b, off + i, none⟩ = some u ∧ Sl w u xs[i] := fun i hi => by
    have hi1 : i < li.length := by omega
    obtain ⟨b, off, e, h1, h2, h3⟩ := hcell i hi1
    have hi2 : i < xs.length := by omega
    refine ⟨hi2, b, off, e, li[i].1, h1, ?_⟩
    have : xs[i] = li[i].2 := by simp [← hxs]
    rw [this]; exact h2
  rw [← hN]
  have HH := hide h
  have HGet := hide hget
  have HB := hide hB
  have HLe := hide hl
  have HX := hide hxl
  have hnN : N ≤ 1000 := by omega
  have hcl : w.cell? ⟨l, 1, none⟩ = w.cell? ⟨l, 1, none⟩ := rfl
  clear hcell hget hB hl hxs hN hl0 h hn hxl hcl
  go_enter Tryz.func32, Tryz.ntmps32
  go_wp2_with fail
  refine (newShelf_any w).mono ?_
  rintro ee w1 ⟨s2, F1, rfl, S1, hF1, K1⟩
  have HS1 := hide S1
  have HF1 := hide hF1
  have HK1 := hide K1
  clear S1 hF1 K1
  go_wp2_with fail
  go_loopw [6, 18] (fun o i wr => ∃ k : Nat, k ≤ N ∧ i = .int .i64 k ∧ (∃ ao m c, o = .slice ao m c) ∧ ∃ F, RowI wr w.heap.size o (nsU S.its (xs.take k)) ∧ Sh wr s2 (newU S.its (xs.take k)) F ∧ (∀ i, F i → w.heap.size ≤ i ∧ i < wr.heap.size) ∧ (∀ i, o.ownBlock = some i → ¬ F i) ∧ Kp [] w wr) (fun _ i _ => N - (intOf i).toNat)
  case atStart => exact ⟨0, by omega, rfl, ⟨_, _, _, rfl⟩, F1, World.ownsRow_nil _ _ _ _, by rw [List.take_zero, newU_nil]; exact HS1.out, HF1.out, (fun i hi => by cases hi), HK1.out⟩
  case round =>
    obtain ⟨k, hk, rfl, ⟨ao, m, c, rfl⟩, F, R, Sf, hF, hoF, K⟩ := hrel
    have HR := hide R
    have HSf := hide Sf
    have HF := hide hF
    have HoF := hide hoF
    have HK := hide K
    clear R Sf hF hoF HS1 HF1
    by_cases hlt : k < N
    · have hlt' : (k : Int) < (N : Int) := by omega
      obtain ⟨hkx, b, off, rfl, u, hu, hSu⟩ := HGet.out k hlt
      have hcu := K.cell hu (by simp)
      have hSu2 := hSu.kept K (by simp)
      obtain ⟨x, hx⟩ : ∃ x, x = xs[k] := ⟨_, rfl⟩
      have hBx : Bs x := by rw [hx]; exact HB.out _ (List.getElem_mem hkx)
      have hlx : x.length ≤ 65535 := by rw [hx]; exact HLe.out _ (List.getElem_mem hkx)
      rw [← hx] at hSu2
      have hcv := hSu2.conv (P := Tryz.prog) 29 9 5 Tryz.underlying29 Tryz.underlying5 Tryz.underlying9
      have htk : xs.take (k + 1) = xs.take k ++ [x] := by rw [List.take_succ_eq_append_getElem hkx, ← hx]
      have HTK := hide htk
      obtain ⟨j, s, q, vs, pv, hg⟩ := HH.out.on K
      have hc1 := hg.at_.c1
      obtain ⟨ax, cx, hux, -⟩ := id hSu2
      obtain ⟨nx, hnx⟩ : ∃ n, n = x.length := ⟨_, rfl⟩
      rw [← hnx] at hux
      rw [hux] at hcu hcv
      have hfr : (newU S.its (xs.take k)).length ≤ 1000 := by have := newU_le S.its (xs.take k); rw [List.length_take] at this; omega
      have hnl : (nsU S.its (xs.take k)).length ≤ 1000 := by rw [nsU_len, List.length_take]; omega
      by_cases hin : x ∈ S.its
      · obtain ⟨ix, hix⟩ : ∃ n, n = S.its.idxOf x := ⟨_, rfl⟩
        have HFi := hide (find_any hg.sh x hBx hlx true (by simp [hin]) (ix : Int) (by rw [hix]; simp))
        have HIX := hide hix
        clear hix
        have HIn := hide hin
        clear hSu hSu2 hu hux hnx hx hg K htk
        go_wp2_with fail
        refine HFi.out.mono ?_
        rintro ee w2 ⟨rfl, hw⟩
        subst w2
        clear HFi
        go_wp2_with (at_builtin; refine wpList_append_rowi rfl (.tmp 45) (.tmp 47) rfl w.heap.size (.slice ao m c) _ rfl HR.out _ rfl (by omega) HK.out.size ?_; intro a3 m3 c3 w3 R3 S3)
        go_roundw
        case rel =>
          have hK3 : Kp [] w w3 := HK.out.then S3.1 (fun i hi => .inr (HR.out.lt (by simpa [Option.mem_toList] using hi)).1)
          refine ⟨k + 1, by omega, by go_num, ⟨a3, m3, c3, rfl⟩, F, ?_, ?_, fun i hi => ⟨(HF.out i hi).1, Nat.lt_of_lt_of_le (HF.out i hi).2 S3.1.size⟩, fun i hi hFi => ?_, hK3⟩
          · rw [HTK.out, nsU_snoc, allU_new, idx_pre HIn.out, ← HIX.out]; exact R3
          · rw [HTK.out, newU_snoc, if_pos (by rw [allU_mem]; exact .inl HIn.out)]
            exact HSf.out.kept S3.1 (fun i hi => HoF.out i (by simpa [Option.mem_toList] using hi))
          · rcases S3.2 i hi with h1 | h1
            · exact HoF.out i h1 hFi
            · have := (HF.out i hFi).2; omega
        case measure => simp [intOf]; omega
      · have HFi := hide (find_any hg.sh x hBx hlx false (by simp [hin]) 0 rfl)
        have HIn := hide hin
        have HP := hide (put_any HSf.out (fun i hi => (HF.out i hi).2) x hBx hlx (by omega))
        have HBx := hide hBx
        clear hSu hSu2 hu hux hnx hx hg K htk
        go_wp2_with fail
        refine HFi.out.mono ?_
        rintro ee w2 ⟨rfl, hw⟩
        subst w2
        clear HFi
        go_wp2_with fail
        refine HP.out.mono ?_
        rintro ee w2 ⟨rfl, F2, Sh2, T2⟩
        obtain ⟨TS, hTS, kTS⟩ := T2.kp
        have hK2 : Kp [] w w2 := HK.out.then kTS (fun i hi => .inr (HF.out i (hTS i hi)).1)
        have HK2 := hide hK2
        have HSh2 := hide Sh2
        have HT2 := hide T2
        have HR2 : Hid (RowI w2 w.heap.size (.slice ao m c) (nsU S.its (xs.take k))) := HR.out.kept kTS (fun i hi hm => HoF.out i hi (hTS i hm))
        have HZ := hide (usize_any (HH.out.on hK2) _ rfl)
        have hidx : (newU S.its (xs.take k)).idxOf x ≤ 1000 := Nat.le_trans List.idxOf_le_length hfr
        have hfew := HH.out.few
        obtain ⟨ix, hix⟩ : ∃ n, n = (newU S.its (xs.take k)).idxOf x := ⟨_, rfl⟩
        obtain ⟨il, hil⟩ : ∃ n, n = S.its.length := ⟨_, rfl⟩
        rw [← hix] at hidx ⊢
        rw [← hil] at hfew HZ
        have hw : IntKind.i64.wrap ((il : Int) + (ix : Int)) = (il : Int) + (ix : Int) := by simp [IntKind.wrap, IntKind.signed, IntKind.bits]; omega
        have HIX := hide hix
        have HIL := hide hil
        clear HP Sh2 T2 hTS kTS hK2 hix hil
        go_wp2_with fail
        refine HZ.out.mono ?_
        rintro ee w2' ⟨rfl, hw2⟩
        subst w2'
        clear HZ
        go_wp2_with (at_builtin; refine wpList_append_rowi rfl (.tmp 45) (.tmp 47) rfl w.heap.size (.slice ao m c) _ rfl HR2.out _ rfl (by omega) HK2.out.size ?_; intro a3 m3 c3 w3 R3 S3)
        go_roundw
        case rel =>
          have hK3 : Kp [] w w3 := HK2.out.then S3.1 (fun i hi => .inr (HR2.out.lt (by simpa [Option.mem_toList] using hi)).1)
          have hlt2 : ∀ i, F2 i → w.heap.size ≤ i ∧ i < w2.heap.size := fun i hi => by
            have := HK.out.size
            have := HT2.out.size
            rcases HT2.out.2 i hi with h1 | h1
            · have := HF.out i h1; omega
            · omega
          have hoF2 : ∀ i, (Value.slice ao m c).ownBlock = some i → ¬ F2 i := fun i hi h2 => by
            rcases HT2.out.2 i h2 with h1 | h1
            · exact HoF.out i hi h1
            · have := (HR.out.lt hi).2; omega
          refine ⟨k + 1, by omega, by go_num, ⟨a3, m3, c3, rfl⟩, F2, ?_, ?_, fun i hi => ⟨(hlt2 i hi).1, Nat.lt_of_lt_of_le (hlt2 i hi).2 S3.1.size⟩, fun i hi hFi => ?_, hK3⟩
          · rw [HTK.out, nsU_snoc, allU_new, idx_post HIn.out, ← HIX.out, ← HIL.out]
            have e : (((ix + il : Nat)) : Int) = (il : Int) + (ix : Int) := by omega
            rw [e]; exact R3
          · have e : newU S.its (xs.take (k + 1)) = insU (newU S.its (xs.take k)) x := by
              rw [HTK.out, newU_snoc]
              unfold insU
              have : (x ∈ allU S.its (xs.take k)) ↔ x ∈ newU S.its (xs.take k) := by
                rw [allU_new, List.mem_append]
                exact ⟨fun h => h.resolve_left HIn.out, .inr⟩
              simp only [this]
            rw [e]
            exact HSh2.out.kept S3.1 (fun i hi => hoF2 i (by simpa [Option.mem_toList] using hi))
          · rcases S3.2 i hi with h1 | h1
            · exact hoF2 i h1 hFi
            · have := (hlt2 i hFi).2; omega
        case measure => simp [intOf]; omega
    · have hkn : k = N := by omega
      have hnlt : ¬ (k : Int) < (N : Int) := by omega
      have e : xs.take k = xs := List.take_of_length_le (by have := HX.out; omega)
      rw [e] at HR HSf
      clear K hkn e
      go_wp2_with fail
      go_ret2
      exact ⟨ao, m, c, s2, rfl, HR.out, HK.out, F, HSf.out, HF.out⟩
theorem ukeep_none (v : Value) (hR : RowU w 0 v []) : Calls Tryz.prog 34 #[.pointer (some ⟨l, 0, none⟩), v] w fun e w' => e = .returned (.int .i64 0) ∧ w' = w := by
  obtain ⟨ao, c, hv⟩ := hR.shape
  rw [List.length_nil] at hv
  subst hv
  clear hR
  go_enter Tryz.func34, Tryz.ntmps34
  go_wp2_with fail
  go_ret
  exact ⟨rfl, rfl⟩
set_option maxRecDepth 100000 in
set_option maxHeartbeats 4000000 in
theorem ukeep_any (h : Lg w0 w l pd pk S f) (v : Value) (fr : List (List Int)) (h0 : fr ≠ []) (hR : ∀ w' F', Stp f.tot w w' F' → RowU w' 0 v fr) (hB : ∀ x ∈ fr, Bs x ∧ x.length ≤ 65535) (hnd : (S.its ++ fr).Nodup) (hn : (S.its ++ fr).length ≤ 256) (hmj : S.mj ≤ 1000) (hlen : (batU fr).length ≤ 65535) (er : Bool) (dd' : Dk) (he : S.dd.add (recP (batU fr)) = (er, dd')) (en : Int) (hen : en = if er then 0 else 13) :
    Calls Tryz.prog 34 #[.pointer (some ⟨l, 0, none⟩), v] w fun e w' => e = .returned (.int .i64 en) ∧ ∃ f', Lg w0 w' l pd pk { S with dd := dd', mj := S.mj + 1, its := if er then S.its ++ fr else S.its } f' ∧ LSt w f w' f' := by
  have hR0 := hR w _ (Stp.refl _ _)
  have hfn : fr.length ≤ 256 := by rw [List.length_append] at hn; omega
  have HL := hide (ulaid_any v fr w hR0 hB (by omega))
  obtain ⟨ao, c, hv⟩ := hR0.shape
  obtain ⟨n, hnn⟩ : ∃ n, n = fr.length := ⟨_, rfl⟩
  have hpos : 0 < n := by rw [hnn]; exact List.length_pos_iff.2 h0
  rw [← hnn] at hv
  have hn256 : n ≤ 256 := by omega
  have hne : ¬ (n : Int) = 0 := by omega
  have hne' : ((n : Int) == 0) = false := by simpa using hne
  have HH := hide h
  have HLen := hide hlen
  have HR := hide hR
  have HB := hide hB
  have HND := hide hnd
  have HN := hide hn
  have HE := hide he
  have HEN := hide hen
  have HNN := hide hnn
  have HV := hide hv
  have HMJ := hide hmj
  subst hv
  clear hR0 hR hB h0 h hlen hnn hnd hn he hen hfn hmj
  go_enter Tryz.func34, Tryz.ntmps34
  go_wp2_with fail
  refine HL.out.mono ?_
  rintro ee w1 ⟨a1, m1, c1, rfl, R1, K1⟩
  obtain ⟨j, s, q, vs, pv, hx⟩ := HH.out.on K1
  have hc0 := hx.at_.c0
  have HJ := hide (jx_add hx.jx R1.sl (batU_bs (fun x hx => (HB.out x hx).1)) HLen.out HMJ.out er HE.out en HEN.out)
  have HK1 := hide K1
  have HX := hide hx
  clear HL R1 K1 hx
  go_wp2_with fail
  refine HJ.out.mono ?_
  rintro ee w2 ⟨rfl, F5, J2, T2⟩
  have hx2 := HX.out.stepJ T2 J2
  have HT2 : Hid (Stp f.tot w w2 (f.upd 5 F5).tot) := (Stp.mid HK1.out).trans T2.one
  have HX2 := hide hx2
  clear HJ J2 T2 hx2 HX hc0
  cases er
  · obtain rfl : en = 13 := by rw [HEN.out]; rfl
    go_wp2_with fail
    go_ret
    exact ⟨rfl, f.upd 5 F5, ⟨j, s, q, vs, pv, HX2.out⟩, HT2.out⟩
  · obtain rfl : en = 0 := by rw [HEN.out]; rfl
    go_wp2_with fail
    go_loopw [31] (fun i wr => ∃ k : Nat, k ≤ n ∧ i = .int .i64 k ∧ ∃ f', LgX w0 wr l pd pk { S with dd := dd', mj := S.mj + 1, its := S.its ++ fr.take k } f' j s q vs pv ∧ Stp f.tot w wr f'.tot) (fun i _ => n - (intOf i).toNat)
    case atStart => exact ⟨0, by omega, rfl, f.upd 5 F5, by rw [List.take_zero, List.append_nil]; exact HX2.out, HT2.out⟩
    case round =>
      obtain ⟨k, hk, rfl, f', hx, hT⟩ := hrel
      have HX := hide hx
      have HT := hide hT
      clear HX2 HT2
      by_cases hlt : k < n
      · have hlt' : (k : Int) < (n : Int) := by omega
        have hkl : k < fr.length := by have := HNN.out; omega
        obtain ⟨g, rfl, hc⟩ := (HR.out wr _ hT).at k hkl
        obtain ⟨hBx, hlx⟩ := HB.out fr[k] (List.getElem_mem hkl)
        have hc1 := hx.at_.c1
        have htk : fr.take (k + 1) = fr.take k ++ [fr[k]] := List.take_succ_eq_append_getElem hkl
        have hnin : fr[k] ∉ S.its ++ fr.take k := by
          have h1 : S.its ++ fr = (S.its ++ fr.take k) ++ fr.drop k := by rw [List.append_assoc, List.take_append_drop]
          have h2 := HND.out
          rw [h1] at h2
          intro hm
          refine (List.nodup_append.1 h2).2.2 _ hm fr[k] ?_ rfl
          rw [List.mem_iff_getElem]
          exact ⟨0, by simp; omega, by simp⟩
        have hsm : (S.its ++ fr.take (k + 1)).length ≤ 256 := by have := HN.out; rw [List.length_append] at this ⊢; rw [List.length_take]; omega
        obtain ⟨x, hxx⟩ : ∃ x, x = fr[k] := ⟨_, rfl⟩
        rw [← hxx] at hc hBx hlx htk hnin
        have HP := hide (put_new hx.sh (fun i hi => (hx.ok.rng 4 i hi).2) x hBx hlx hnin (by have := hx.few; omega) _ rfl)
        have HTK := hide htk
        have HSM := hide hsm
        clear hx hT hxx htk hsm hnin
        go_wp2_with fail
        refine HP.out.mono ?_
        rintro ee w3 ⟨rfl, F4, S3, T3⟩
        have HX3 := hide (HX.out.stepS T3 (by simpa using S3) (by have := HSM.out; rw [HTK.out] at this; simpa using this))
        have HT3 : Hid (Stp f.tot w w3 (f'.upd 4 F4).tot) := HT.out.trans T3.one
        clear HP S3 T3 hc1 hc
        go_wp2_with fail
        go_roundw
        case rel => exact ⟨k + 1, by omega, by go_num, f'.upd 4 F4, by rw [HTK.out, ← List.append_assoc]; exact HX3.out, HT3.out⟩
        case measure => simp [intOf]; omega
      · have hkn : k = n := by omega
        have hnlt : ¬ (k : Int) < (n : Int) := by omega
        have e : fr.take k = fr := List.take_of_length_le (by have := HNN.out; omega)
        rw [e] at HX
        clear hx hT hkn e
        go_wp2_with fail
        go_ret
        exact ⟨rfl, f', ⟨j, s, q, vs, pv, HX.out⟩, HT.out⟩
/-- Add of items of which some are new, and for which there is room. -/
theorem uadd_any (h : Lg w0 w l pd pk S f) (vi : Value) (li : List (Value × List Int)) (xs : List (List Int)) (hxs : li.map (·.2) = xs) (hL : Lists w vi li) (hl : ∀ x ∈ xs, x.length ≤ 65535) (hn : xs.length ≤ 1000) (h256 : (allU S.its xs).length ≤ 256) (h0 : newU S.its xs ≠ []) (hmj : S.mj ≤ 1000) (hlen : (batU (newU S.its xs)).length ≤ 65535) (er : Bool) (dd' : Dk) (he : S.dd.add (recP (batU (newU S.its xs))) = (er, dd')) :
    Calls Tryz.prog 10 #[.pointer (some ⟨l, 0, none⟩), vi] w fun e w' => ∃ vr en, e = .returned (.tuple #[vr, .int .i64 en]) ∧ en = (if er then 0 else 13) ∧ (if er then RowI w' w.heap.size vr (nsU S.its xs) else vr = .slice none 0 0) ∧ ∃ f', Lg w0 w' l pd pk { S with dd := dd', mj := S.mj + 1, its := if er then allU S.its xs else S.its } f' ∧ LSt w f w' f' ∧ ∀ k, vr.ownBlock = some k → ¬ f'.tot k := by
  have HNu := hide (numbered_any h vi li xs hxs hL hl hn)
  have hB : ∀ x ∈ xs, Bs x := fun x hx => by
    obtain ⟨y, hy, rfl⟩ := List.mem_map.1 (hxs ▸ hx)
    exact hL.bs y hy
  have hNB : ∀ x ∈ newU S.its xs, Bs x ∧ x.length ≤ 65535 := fun x hx => by
    have := (newU_mem h.nd hx).1
    exact ⟨hB x this, hl x this⟩
  have HNB := hide hNB
  have HH := hide h
  have hll := allU_len S.its xs
  have HAl := hide (allU_new S.its xs)
  have HND : Hid ((S.its ++ newU S.its xs).Nodup) := by rw [← allU_new]; exact allU_nodup h.nd
  obtain ⟨fr, hfr⟩ : ∃ fr, fr = newU S.its xs := ⟨_, rfl⟩
  rw [← hfr] at HNu HNB h0 hlen he HAl HND hll
  obtain ⟨a, ha⟩ : ∃ a, a = S.its.length := ⟨_, rfl⟩
  obtain ⟨b, hb⟩ : ∃ b, b = fr.length := ⟨_, rfl⟩
  have hab : a + b ≤ 256 := by omega
  have hab2 : ¬ (256 : Int) < (a : Int) + (b : Int) := by omega
  have hab3 : decide ((256 : Int) < (a : Int) + (b : Int)) = false := decide_eq_false hab2
  have hw : IntKind.i64.wrap ((a : Int) + (b : Int)) = (a : Int) + (b : Int) := by simp [IntKind.wrap, IntKind.signed, IntKind.bits]; omega
  have HE := hide he
  have HA := hide ha
  have HBB := hide hb
  have H0 := hide h0
  have HLen := hide hlen
  have HMJ := hide hmj
  clear h hB hNB hL hl hn hxs he ha hb h0 hlen hmj hll h256 hfr
  go_enter Tryz.func10, Tryz.ntmps10
  go_wp2_with fail
  refine HNu.out.mono ?_
  rintro ee w1 ⟨ao, m, c, s2, rfl, R1, K1, F, Sh1, hF⟩
  have HR1 := hide R1
  have HK1 := hide K1
  have HSh := hide Sh1
  have HF := hide hF
  have HL1 := hide (HH.out.on K1)
  have HZ := hide (usize_any HL1.out a (by rw [HA.out]))
  clear R1 K1 Sh1 hF HNu
  go_wp2_with fail
  refine HZ.out.mono ?_
  rintro ee w2 ⟨rfl, hw2⟩
  subst w2
  have HZ2 := hide (ssize_any HSh.out b (by rw [HBB.out]))
  clear HZ
  go_wp2_with fail
  refine HZ2.out.mono ?_
  rintro ee w2 ⟨rfl, hw2⟩
  subst w2
  clear HZ2
  obtain ⟨v2, b2, hSc, hRU, -, -, -, hoF, -⟩ := HSh.out.ex
  obtain ⟨a2, c2, hv2⟩ := hRU.shape
  have hc0 := hSc.c0
  obtain ⟨en, hen⟩ : ∃ en : Int, en = if er then 0 else 13 := ⟨_, rfl⟩
  have HKp := hide (ukeep_any HL1.out v2 fr H0.out (fun w' F' t => by
    obtain ⟨T, hT, k⟩ := t.kp
    exact hRU.kept k (fun i hi hm => by
      have h1 := (HH.out.lt i (hT i hm)).2
      have h2 := (HF.out i (hoF i hi).1).1
      omega)) HNB.out HND.out (by rw [List.length_append]; have := HA.out; have := HBB.out; omega) HMJ.out HLen.out er dd' HE.out en hen)
  have HEn := hide hen
  rw [← HBB.out] at hv2
  subst hv2
  clear hRU hoF hSc hen
  go_wp2_with fail
  refine HKp.out.mono ?_
  rintro ee w3 ⟨rfl, f', L3, T3⟩
  have HL3 := hide L3
  have HT3 := hide T3
  clear L3 T3 HKp
  have HTT : Hid (LSt w f w3 f') := (Stp.mid HK1.out).trans HT3.out
  cases er
  · obtain rfl : en = 13 := by rw [HEn.out]; rfl
    go_wp2_with fail
    go_ret2
    exact ⟨_, 13, rfl, rfl, rfl, f', HL3.out, HTT.out, fun k hk => by cases hk⟩
  · obtain rfl : en = 0 := by rw [HEn.out]; rfl
    go_wp2_with fail
    go_ret2
    refine ⟨_, 0, rfl, rfl, ?_, f', ?_, HTT.out, fun k hk hf => ?_⟩
    · obtain ⟨T, hT, k⟩ := HT3.out.kp
      exact HR1.out.kept k (fun i hi hm => by
        have h1 := (HH.out.lt i (hT i hm)).2
        have h2 := (HR1.out.lt hi).1
        omega)
    · have := HL3.out
      simp only [if_true] at this ⊢
      rw [HAl.out]; exact this
    · have h2 := HR1.out.lt hk
      rcases HT3.out.2 k hf with h1 | h1
      · have := (HH.out.lt k h1).2; omega
      · omega
end
end Go.Proofs.YtillhpgdlmeajabGreatDoor

/-
  Lists of slices with the room behind them told: how they are cut.
-/
namespace Go.Proofs.YtillhpgdlmeajabGreatDoor
open Go.RowKit
/-- v is a slice of slices that reads so; its room is no less than its length. -/
def Lc (w : World) (v : Value) (l : List (Value × List Int)) : Prop :=
  Lists w v l ∧ ∃ ao c, v = .slice ao l.length c ∧ l.length ≤ c ∧ c ≤ maxLen ∧ (ao = none → c = 0)
theorem Lc.kept {w w' : World} {v : Value} {l : List (Value × List Int)} (h : Lc w v l) (k : Kp [] w w') : Lc w' v l := ⟨h.1.kept k, h.2⟩
theorem Lc.take {w : World} {ao : Option Addr} {len c : Nat} {l : List (Value × List Int)} (h : Lc w (.slice ao len c) l) (n : Nat) (hn : n ≤ l.length) : Lc w (.slice ao n c) (l.take n) := by
  obtain ⟨h1, ao', c', e, h2, h3, h4⟩ := h
  cases e
  have hl : (l.take n).length = n := by simp; omega
  exact ⟨h1.take hn, ao, c, by rw [hl], by omega, h3, h4⟩
theorem Lc.drop {w : World} {ao : Option Addr} {len c : Nat} {l : List (Value × List Int)} (h : Lc w (.slice ao len c) l) (n : Nat) (hn : n ≤ l.length) :
    Lc w (.slice (if c = n then ao else ao.map (·.add n)) (len - n) (c - n)) (l.drop n) := by
  obtain ⟨⟨_, _, _, g1, g2⟩, ao', c', e, h2, h3, h4⟩ := h
  rename_i x1 x2 x3
  cases e
  cases x3
  have hl : (l.drop n).length = l.length - n := by simp
  refine ⟨⟨_, c - n, by rw [hl], by omega, fun i hi => ?_⟩, _, c - n, by rw [hl], by omega, by omega, fun ha => ?_⟩
  · have hi2 : n + i < l.length := by omega
    obtain ⟨b, off, e, h5, h6, h7⟩ := g2 (n + i) hi2
    subst e
    have e2 : (l.drop n)[i] = l[n + i] := by simp
    rw [e2, if_neg (by omega)]
    exact ⟨b, off + n, by simp [Addr.add_lit], by rw [Nat.add_assoc]; exact h5, h6, h7⟩
  · split at ha
    · omega
    · cases hao : ao with
      | none => have := h4 hao; omega
      | some x => rw [hao] at ha; cases ha
theorem Lc.shape {w : World} {v : Value} {l : List (Value × List Int)} (h : Lc w v l) : ∃ ao c, v = .slice ao l.length c ∧ l.length ≤ c ∧ c ≤ 9223372036854775807 ∧ (ao = none → c = 0) := by
  obtain ⟨_, ao, c, e, h2, h3, h4⟩ := h
  exact ⟨ao, c, e, h2, by unfold maxLen at h3; omega, h4⟩
theorem lc_of_owns {w : World} {base : Nat} {v : Value} {l : List (Value × List Int)} (h : RowV w base v (l.map (·.1))) (hL : Lists w v l) : Lc w v l := by
  refine ⟨hL, ?_⟩
  rcases h.2 with ⟨rfl, h0⟩ | ⟨g, cap, cur, rfl, _, hg, hc, hm, _⟩
  · have : l.length = 0 := by simpa using h0
    exact ⟨none, 0, by rw [this], by omega, by simp, fun _ => rfl⟩
  · exact ⟨some ⟨g, 0, none⟩, cap, by simp, by simpa using hc, hm, fun h => by cases h⟩
theorem run_lhead (ao : Option Addr) (n c k : Nat) (w : World) (h2 : k ≤ c) :
    (Instr.sliceAt 31 (.slice ao n c) none (some (.int .i64 k)) none).run Tryz.prog w = .ok (.slice ao k c) w := by
  have e3 : (k : Int) ≤ (c : Int) := by omega
  simp [go_sem, e3]
theorem run_lfrom (ao : Option Addr) (n c p : Nat) (w : World) (h1 : p ≤ n) (h2 : n ≤ c) (h4 : ao = none → c = 0) :
    (Instr.sliceAt 31 (.slice ao n c) (some (.int .i64 p)) none none).run Tryz.prog w = .ok (.slice (if c = p then ao else ao.map (·.add p)) (n - p) (c - p)) w := by
  have e2 : (p : Int) ≤ (n : Int) := by omega
  by_cases hc : c = p
  · rw [if_pos hc]
    subst hc
    simp [go_sem, e2]
  · rw [if_neg hc]
    cases ao with
    | none => have := h4 rfl; omega
    | some a => simp [go_sem, e2, hc]
end Go.Proofs.YtillhpgdlmeajabGreatDoor

/-
  Lists of slices by their bytes, cut and looked at, as what an operation yields.
-/
namespace Go.Proofs.YtillhpgdlmeajabGreatDoor
open Go.RowKit
/-- The value is a slice of slices that reads as these bytes; its room is told. -/
def LcM (ls : List (List Int)) : Tell := fun v w => ∃ l, Lc w v l ∧ l.map (·.2) = ls
theorem stable_lcm (ls : List (List Int)) : Tell.stable (LcM ls) := fun _ _ _ k ⟨l, h, e⟩ => ⟨l, h.kept k, e⟩
theorem LcM.kept {ls : List (List Int)} {v : Value} {w w' : World} (h : LcM ls v w) (k : Kp [] w w') : LcM ls v w' := stable_lcm ls _ _ _ k h
theorem LcM.bs {ls : List (List Int)} {v : Value} {w : World} (h : LcM ls v w) : ∀ x ∈ ls, Bs x := by
  obtain ⟨l, h1, rfl⟩ := h
  intro x hx
  obtain ⟨y, hy, rfl⟩ := List.mem_map.1 hx
  exact h1.1.bs y hy
theorem LcM.shape {ls : List (List Int)} {v : Value} {w : World} (h : LcM ls v w) : ∃ ao c, v = .slice ao ls.length c ∧ ls.length ≤ c ∧ c ≤ 9223372036854775807 ∧ (ao = none → c = 0) := by
  obtain ⟨l, h1, rfl⟩ := h
  rw [List.length_map]
  exact h1.shape
theorem LcM.take {ls : List (List Int)} {w : World} {ao : Option Addr} {len c : Nat} (h : LcM ls (.slice ao len c) w) (n : Nat) (hn : n ≤ ls.length) : LcM (ls.take n) (.slice ao n c) w := by
  obtain ⟨l, h1, rfl⟩ := h
  exact ⟨l.take n, h1.take n (by simpa using hn), by rw [List.map_take]⟩
theorem LcM.drop {ls : List (List Int)} {w : World} {ao : Option Addr} {len c : Nat} (h : LcM ls (.slice ao len c) w) (n : Nat) (hn : n ≤ ls.length) : LcM (ls.drop n) (.slice (if c = n then ao else ao.map (·.add n)) (len - n) (c - n)) w := by
  obtain ⟨l, h1, rfl⟩ := h
  exact ⟨l.drop n, h1.drop n (by simpa using hn), by rw [List.map_drop]⟩
/-- a slice at a place of a list. -/
theorem LcM.at {ls : List (List Int)} {w : World} {ao : Option Addr} {len c : Nat} (h : LcM ls (.slice ao len c) w) (i : Nat) (x : List Int) (hx : ls[i]? = some x) : len = ls.length ∧ ∃ b off u, ao = some ⟨b, off, none⟩ ∧ w.cell? ⟨b, off + i, none⟩ = some u ∧ Sl w u x ∧ Bs x := by
  obtain ⟨l, ⟨⟨_, _, e, _, h2⟩, _⟩, rfl⟩ := h
  cases e
  rw [List.getElem?_map] at hx
  obtain ⟨y, hy, rfl⟩ := Option.map_eq_some_iff.1 hx
  obtain ⟨hi, rfl⟩ := List.getElem?_eq_some_iff.1 hy
  obtain ⟨b, off, e, h3, h4, h5⟩ := h2 i hi
  exact ⟨by simp, b, off, _, e, h3, h4, h5⟩
/-- The value is a row of bytes from base on. -/
def RwT (base : Nat) (r : List Int) : Tell := fun v w => ∃ ao m c, v = .slice ao m c ∧ Row w base (.slice ao m c) r
theorem stable_rw (base : Nat) (r : List Int) : Tell.stable (RwT base r) := fun _ _ _ k ⟨ao, m, c, e, h⟩ => ⟨ao, m, c, e, h.kept k (by simp)⟩
section
variable {o : Oper} {a : Act} {w : World}
theorem grown_lhead (s k : Operand) (ls : List (List Int)) (n : Nat) (ho : o.op = .slice 31 s none (some k) none) (h : LcM ls (a.eval s) w) (hk : a.eval k = .int .i64 (n : Nat)) (hn : n ≤ ls.length) : grown Tryz.prog w (LcM (ls.take n)) ((execOp a.eval o).run Tryz.prog w) := by
  obtain ⟨ao, c, e, h1, h2, h3⟩ := h.shape
  rw [e] at h
  refine grown_run (v := .slice ao n c) (w' := w) ?_ (Kp.refl _ _) (h.take n hn)
  have hr := run_lhead ao ls.length c n w (by omega)
  unfold execOp
  simp only [ho, e, hk, Sem.run_bind, hr, Result.andThen_ok, Sem.run_pure, Option.map_some, Option.map_none]
theorem grown_lfrom (s k : Operand) (ls : List (List Int)) (n : Nat) (ho : o.op = .slice 31 s (some k) none none) (h : LcM ls (a.eval s) w) (hk : a.eval k = .int .i64 (n : Nat)) (hn : n ≤ ls.length) : grown Tryz.prog w (LcM (ls.drop n)) ((execOp a.eval o).run Tryz.prog w) := by
  obtain ⟨ao, c, e, h1, h2, h3⟩ := h.shape
  rw [e] at h
  refine grown_run (w' := w) ?_ (Kp.refl _ _) (h.drop n hn)
  have hr := run_lfrom ao ls.length c n w hn h1 h3
  unfold execOp
  simp only [ho, e, hk, Sem.run_bind, hr, Result.andThen_ok, Sem.run_pure, Option.map_some, Option.map_none]
end
end Go.Proofs.YtillhpgdlmeajabGreatDoor

/-
  The contracts of Leaf and Node, of the program and of the reference.
-/
namespace Go.Proofs.YtillhpgdlmeajabGreatDoor
open Go.RowKit
theorem small1 {v : Value} {bs : List Int} {n : Nat} (h : bs.length ≤ n) : ∀ x ∈ [(v, bs)], x.2.length ≤ n := fun x hx => by
  obtain rfl : x = (v, bs) := by simpa using hx
  exact h
theorem small2 {v u : Value} {bs cs : List Int} {n : Nat} (h : bs.length ≤ n) (k : cs.length ≤ n) : ∀ x ∈ [(v, bs), (u, cs)], x.2.length ≤ n := fun x hx => by
  rcases (by simpa using hx : x = (v, bs) ∨ x = (u, cs)) with rfl | rfl
  · exact h
  · exact k
set_option maxRecDepth 100000 in
set_option maxHeartbeats 1000000 in
theorem tleaf_any (v : Value) (bs : List Int) (r : List Int) (hr : r = tleafP bs) (w : World) (hS : Sl w v bs) (hB : Bs bs) (hl : bs.length ≤ 1000000) (hG : Gl w) :
    Calls Tryz.prog 66 #[v] w fun e w' => ∃ ao m c, e = .returned (.slice ao m c) ∧ Row w' w.heap.size (.slice ao m c) r ∧ Kp [] w w' := by
  have HG := hide hG
  have HL := lists1 hS hB
  have HK := hide ((Kp.refl [] w).alloc (.cells #[v] 29))
  have HC := hide (tagged_any 0 _ _ r (by rw [hr, cat1]; rfl) _ HL (by omega) (by omega) (by simp) (small1 hl) ((unhide HG).kept (unhide HK) (by simp)))
  rw [show (w.alloc (.cells #[v] 29)).heap.size = w.heap.size + 1 by simp] at HC
  obtain ⟨ab, cb, hvb, _⟩ := hS
  obtain ⟨nb, hnb⟩ : ∃ n, n = bs.length := ⟨_, rfl⟩
  rw [← hnb] at hvb
  subst hvb
  clear hr hB hl HL hnb hG
  go_enter Tryz.func66, Tryz.ntmps66
  go_wp2_with fail
  refine (unhide HC).mono ?_
  rintro ee w2 ⟨ao2, m2, c2, rfl, R2, K2⟩
  have HR2 : Hid (Row w2 w.heap.size (.slice ao2 m2 c2) r) := owns_rebase R2 (fun i hi => by have := Row.own R2 i hi; omega)
  have HK2 := hide ((unhide HK).trans K2)
  clear HC HK R2 K2
  go_wp2_with fail
  go_ret
  exact ⟨ao2, m2, c2, rfl, unhide HR2, unhide HK2⟩
set_option maxRecDepth 100000 in
set_option maxHeartbeats 1000000 in
theorem tnode_any (v u : Value) (bs cs : List Int) (r : List Int) (hr : r = tnodeP bs cs) (w : World) (hS : Sl w v bs) (hB : Bs bs) (hl : bs.length ≤ 1000000) (hT : Sl w u cs) (hC : Bs cs) (hm : cs.length ≤ 1000000) (hG : Gl w) :
    Calls Tryz.prog 65 #[v, u] w fun e w' => ∃ ao m c, e = .returned (.slice ao m c) ∧ Row w' w.heap.size (.slice ao m c) r ∧ Kp [] w w' := by
  have HG := hide hG
  have HL := lists2 hS hB hT hC
  have HK := hide ((Kp.refl [] w).alloc (.cells #[v, u] 29))
  have HC := hide (tagged_any 1 _ _ r (by rw [hr, cat2]; rfl) _ HL (by omega) (by omega) (by simp) (small2 hl hm) ((unhide HG).kept (unhide HK) (by simp)))
  rw [show (w.alloc (.cells #[v, u] 29)).heap.size = w.heap.size + 1 by simp] at HC
  obtain ⟨ab, cb, hvb, _⟩ := hS
  obtain ⟨nb, hnb⟩ : ∃ n, n = bs.length := ⟨_, rfl⟩
  rw [← hnb] at hvb
  subst hvb
  obtain ⟨ad, cd, hvd, _⟩ := hT
  obtain ⟨nd, hnd⟩ : ∃ n, n = cs.length := ⟨_, rfl⟩
  rw [← hnd] at hvd
  subst hvd
  clear hr hB hl hC hm HL hnb hnd hG
  go_enter Tryz.func65, Tryz.ntmps65
  go_wp2_with fail
  refine (unhide HC).mono ?_
  rintro ee w2 ⟨ao2, m2, c2, rfl, R2, K2⟩
  have HR2 : Hid (Row w2 w.heap.size (.slice ao2 m2 c2) r) := owns_rebase R2 (fun i hi => by have := Row.own R2 i hi; omega)
  have HK2 := hide ((unhide HK).trans K2)
  clear HC HK R2 K2
  go_wp2_with fail
  go_ret
  exact ⟨ao2, m2, c2, rfl, unhide HR2, unhide HK2⟩
end Go.Proofs.YtillhpgdlmeajabGreatDoor

/-
  math/bits.Len of every number.
-/
namespace Go.Proofs.YtillhpgdlmeajabGreatDoor
open Go.RowKit
theorem len_tab (q : Int) (hi : q.toNat < Lib.len8tab.size) : (((Lib.len8tab[q.toNat]'hi).toNat : Nat) : Int) = Lib.len8 q := by
  simp only [Lib.len8, ByteArray.getElem?_lt' _ _ hi, Option.getD_some]
/-- x without its lowest k bits is a byte: so long is x. -/
theorem len_way (k d : Nat) (x q : Int) (hd : d = 2 ^ k) (hk56 : k ≤ 56) (h0 : 0 ≤ x) (h1 : x ≤ 18446744073709551615) (hk : k = 0 ∨ (d : Int) ≤ x) (hq : q = x / (d : Int)) (hb : q ≤ 255) (z : Int) (hz : z = Lib.len8 q) : wrap64 ((k : Int) + wrap64 z) = (Lib.bitLen x.toNat : Int) := by
  have hq0 : 0 ≤ q := by rw [hq]; exact Int.ediv_nonneg h0 (Int.natCast_nonneg _)
  have e1 := Lib.len8_of q hq0 hb
  have e2 := Lib.bitLen_le8' q hq0 hb
  have e3 : q.toNat = x.toNat / d := by
    rw [hq]
    obtain ⟨n, rfl⟩ := Int.eq_ofNat_of_zero_le h0
    rw [← Int.natCast_ediv]; exact Int.toNat_natCast _
  have e4 : Lib.bitLen x.toNat = k + Lib.bitLen q.toNat := by
    rw [e3, hd]
    rcases hk with rfl | hk
    · rw [Nat.pow_zero, Nat.div_one, Nat.zero_add]
    · exact Lib.bitLen_shift k x.toNat (by rw [← hd]; omega) (by clear hd e3; omega)
  rw [hz, e1, e4]
  clear hz e1 e4 e3 hq hd
  unfold wrap64
  omega
set_option maxHeartbeats 4000000 in
set_option maxRecDepth 100000 in
theorem len64_any (x : Int) (w : World) (h0 : 0 ≤ x) (h1 : x ≤ 18446744073709551615) : Calls Tryz.prog 109 #[.int .u64 x] w fun e w' => e = .returned (.int .i64 (Lib.bitLen x.toNat)) ∧ w' = w := by
  have hs := Lib.len8tab_size
  go_enter Tryz.func109, Tryz.ntmps109
  go_wp2
  all_goals first
    | (exfalso; omega)
    | (go_ret; refine ⟨congrArg Ending.returned (congrArg (Value.int IntKind.i64) ?_), rfl⟩)
  all_goals first
    | exact len_way 56 72057594037927936 x _ (by decide) (by omega) h0 h1 (by omega) (by omega) (by omega) _ (len_tab _ _)
    | exact len_way 48 281474976710656 x _ (by decide) (by omega) h0 h1 (by omega) (by omega) (by omega) _ (len_tab _ _)
    | exact len_way 40 1099511627776 x _ (by decide) (by omega) h0 h1 (by omega) (by omega) (by omega) _ (len_tab _ _)
    | exact len_way 32 4294967296 x _ (by decide) (by omega) h0 h1 (by omega) (by omega) (by omega) _ (len_tab _ _)
    | exact len_way 24 16777216 x _ (by decide) (by omega) h0 h1 (by omega) (by omega) (by omega) _ (len_tab _ _)
    | exact len_way 16 65536 x _ (by decide) (by omega) h0 h1 (by omega) (by omega) (by omega) _ (len_tab _ _)
    | exact len_way 8 256 x _ (by decide) (by omega) h0 h1 (by omega) (by omega) (by omega) _ (len_tab _ _)
    | (have e := len_way 0 1 x x (by decide) (by omega) h0 h1 (by omega) (by omega) (by omega) _ (len_tab x (by omega))
       rw [show (((0 : Nat) : Int) + _ : Int) = _ from Int.zero_add _] at e
       exact e)
theorem len_any (x : Int) (w : World) (h0 : 0 ≤ x) (h1 : x ≤ 18446744073709551615) : Calls Tryz.prog 94 #[.int .u64 x] w fun e w' => e = .returned (.int .i64 (Lib.bitLen x.toNat)) ∧ w' = w := by
  go_enter Tryz.func94, Tryz.ntmps94
  go_wp2_with (go_at_call 109; refine (len64_any x _ h0 h1).mono ?_; rintro e w' ⟨rfl, rfl⟩)
  go_ret
  exact ⟨rfl, rfl⟩
end Go.Proofs.YtillhpgdlmeajabGreatDoor

/-
  The contract of the program's Split.
-/
namespace Go.Proofs.YtillhpgdlmeajabGreatDoor
open Go.RowKit
theorem tshl (j : Nat) (h : j ≤ 62) : wrap64 ((2 : Int) ^ j) = 2 ^ j := by
  have h1 : (2 : Nat) ^ j ≤ 2 ^ 62 := Nat.pow_le_pow_right (by omega) h
  have h2 : ((2 : Int) ^ j) = ((2 ^ j : Nat) : Int) := by simp
  have h3 : (0 : Int) ≤ 2 ^ j := by rw [h2]; exact Int.natCast_nonneg _
  have h4 : (2 : Int) ^ j ≤ 4611686018427387904 := by rw [h2]; omega
  unfold wrap64
  omega
/-- what is known of a number from 2 on. -/
theorem tspl_bits (n : Nat) (h : 2 ≤ n) (hn : n ≤ 9223372036854775807) : ∃ j, j ≤ 62 ∧ Lib.bitLen (n - 1) = j + 1 ∧ tsplP n = 2 ^ j := by
  refine ⟨(n - 1).log2, ?_, bitLen_log 64 (n - 1) (by omega) (by omega) (by omega), tsplP_more h⟩
  have := (Nat.log2_lt (n := n - 1) (k := 63) (by omega)).2 (by omega)
  omega
set_option maxHeartbeats 1000000 in
set_option maxRecDepth 100000 in
theorem tsplit_any (n : Int) (k : Nat) (w : World) (hk : k = tsplP n.toNat) (hn : -9223372036854775808 ≤ n ∧ n ≤ 9223372036854775807) :
    Calls Tryz.prog 64 #[.int .i64 n] w fun e w' => e = .returned (.int .i64 k) ∧ w' = w := by
  by_cases h2 : n < 2
  · rw [tsplP_small (by omega)] at hk
    subst hk
    go_enter Tryz.func64, Tryz.ntmps64
    go_wp2_with fail
    go_ret
    exact ⟨rfl, rfl⟩
  · obtain ⟨j, hj, hb, he⟩ := tspl_bits n.toNat (by omega) (by omega)
    rw [he] at hk
    have hC := len_any (n - 1) w (by omega) (by omega)
    rw [show (n - 1).toNat = n.toNat - 1 by omega, hb] at hC
    have HC := hide hC
    have hp := tshl j hj
    clear hC hb he
    go_enter Tryz.func64, Tryz.ntmps64
    go_wp2_with fail
    refine (unhide HC).mono ?_
    rintro ee w1 ⟨rfl, hw⟩
    subst w1
    clear HC
    go_wp2_with fail
    go_ret
    refine ⟨?_, rfl⟩
    rw [hk]
    simp
    exact hp
end Go.Proofs.YtillhpgdlmeajabGreatDoor

/-
  The contracts of the program's Root and Range.
-/
namespace Go.Proofs.YtillhpgdlmeajabGreatDoor
open Go.RowKit
open Go.Proofs
set_option maxRecDepth 100000 in
set_option maxHeartbeats 2000000 in
theorem troot_any (n : Nat) : ∀ (v : Value) (ls : List (List Int)) (r : List Int) (w : World), r = trootP ls → ls.length = n → n ≤ 100000 → LcM ls v w → (∀ x ∈ ls, x.length ≤ 1000) → Gl w →
    Calls Tryz.prog 40 #[v] w fun e w' => ∃ ao m c, e = .returned (.slice ao m c) ∧ Row w' w.heap.size (.slice ao m c) r ∧ Kp [] w w' := by
  induction n using Nat.strongRecOn with
  | ind n ih =>
    intro v ls r w hr hlen hn hL hm hG
    have hbs := hL.bs
    obtain ⟨ao, c, e, h1, h2, h3⟩ := hL.shape
    rw [hlen] at e h1
    subst e
    rcases (by omega : n = 0 ∨ n = 1 ∨ 2 ≤ n) with rfl | rfl | h2n
    · have e : ls = [] := List.eq_nil_of_length_eq_zero hlen
      rw [e, trootP_nil] at hr
      have HC := hide (sum_at (.slice none 0 0) [] r hr w (Sl.nil w) (fun b hb => by cases hb) (by simp) hG)
      clear hbs hm hG hL hr e ih h1 h3 hlen
      go_enter Tryz.func40, Tryz.ntmps40
      go_wp2_with fail
      refine (unhide HC).mono ?_
      rintro ee w2 ⟨ao2, m2, c2, rfl, R2, K2⟩
      have HR2 := hide R2
      have HK2 := hide K2
      clear R2 K2 HC
      go_wp2_with fail
      go_ret
      exact ⟨ao2, m2, c2, rfl, unhide HR2, unhide HK2⟩
    · obtain ⟨x, rfl⟩ : ∃ x, ls = [x] := by
        match ls, hlen with
        | [x], _ => exact ⟨x, rfl⟩
      rw [trootP_one] at hr
      subst hr
      obtain ⟨-, b, off, u, rfl, hc, hS, -⟩ := hL.at 0 r rfl
      have hl := hm r (by simp)
      have ob := (Kp.refl [] w).alloc (.cells #[] 5)
      have HK := hide ob
      have hcw := ob.cell hc (by simp)
      have hSw := hS.kept ob (by simp)
      obtain ⟨ax, cx, hux, _⟩ := hS
      obtain ⟨nx, hnx⟩ : ∃ nx, nx = r.length := ⟨_, rfl⟩
      rw [← hnx] at hux
      subst hux
      have HSw := hide hSw
      have hR0 : Hid (Row (w.alloc (.cells #[] 5)) w.heap.size (.slice (some ⟨w.heap.size, 0, none⟩) 0 0) []) := row_of_block (bs := []) (Nat.le_refl _) (heap_alloc_new w _) rfl (by simp [maxLen])
      rw [Nat.add_zero] at hc hcw
      clear hbs hm hG hL ih h1 h3 hlen hSw ob hnx
      go_enter Tryz.func40, Tryz.ntmps40
      go_wp2_with (at_builtin; refine wpList_append_row rfl (.tmp 11) (.tmp 14) rfl w.heap.size _ _ rfl (unhide hR0) _ r rfl (unhide HSw) (by simp; omega) (by simp) ?_; intro ao2 m2 c2 w2 r2 s2)
      go_ret
      exact ⟨ao2, m2, c2, rfl, by simpa using r2, (unhide hR0).step (unhide HK) s2⟩
    · obtain ⟨k, hk⟩ : ∃ k, k = tsplP n := ⟨_, rfl⟩
      have hk1 : 1 ≤ k := by rw [hk]; exact tsplP_pos h2n
      have hk2 : k < n := by rw [hk]; exact tsplP_lt h2n
      rw [trootP_more (by omega), hlen, ← hk] at hr
      obtain ⟨ra, hra⟩ : ∃ r, r = trootP (ls.take k) := ⟨_, rfl⟩
      obtain ⟨rb, hrb⟩ : ∃ r, r = trootP (ls.drop k) := ⟨_, rfl⟩
      rw [← hra, ← hrb] at hr
      have HR := hide hr
      have HA := hide (fun v w hL hG => ih k hk2 v (ls.take k) ra w hra (by simp; omega) (by omega) hL (fun x hx => hm x (List.mem_of_mem_take hx)) hG)
      have HB := hide (fun v w hL hG => ih (n - k) (by omega) v (ls.drop k) rb w hrb (by simp; omega) (by omega) hL (fun x hx => hm x (List.mem_of_mem_drop hx)) hG)
      have HAb : Hid (Bs ra) := by rw [hra]; exact trootP_bs _ (fun x hx => hbs x (List.mem_of_mem_take hx))
      have HBb : Hid (Bs rb) := by rw [hrb]; exact trootP_bs _ (fun x hx => hbs x (List.mem_of_mem_drop hx))
      have hal : ra.length ≤ 1000 := by rw [hra]; exact trootP_le 1000 (by omega) _ (fun x hx => hm x (List.mem_of_mem_take hx))
      have hbl : rb.length ≤ 1000 := by rw [hrb]; exact trootP_le 1000 (by omega) _ (fun x hx => hm x (List.mem_of_mem_drop hx))
      have HC := hide (tsplit_any n k w (by rw [Int.toNat_natCast]; exact hk) (by omega))
      have HKL : Hid (k ≤ ls.length) := hide (by omega)
      have HLL : Hid (∀ w', Kp [] w.drew w' → LcM ls (.slice ao n c) w') := fun w' k' => hL.kept ((kp_drew w).trans k')
      have HGL : Hid (∀ w', Kp [] w.drew w' → Gl w') := fun w' k' => hG.kept ((kp_drew w).trans k') (by simp)
      have hn0 : ¬ (n : Int) = 0 := by omega
      have hn1 : ¬ (n : Int) = 1 := by omega
      clear hbs hm hG hL ih h1 h3 hlen hr hra hrb hk
      go_enter Tryz.func40, Tryz.ntmps40
      go_wp2_with fail
      refine (unhide HC).mono ?_
      rintro ee w2 ⟨rfl, hw⟩
      subst w2
      clear HC hn0 hn1
      go_wp2_with fail
      obtain ⟨B, hB⟩ : ∃ B, B = w.heap.size := ⟨_, rfl⟩
      have HBW : Hid (∀ w', Kp [] w.drew w' → B ≤ w'.heap.size) := fun w' k' => by rw [hB]; exact k'.size
      have HBB := hide hB
      clear hB
      refine region_grow Tryz.mixed [Is (.slice ao n c), Is (.int .i64 k), LcM ((ls).take k), SlT (ra), Is (.slice ao n c), Is (.int .i64 k), LcM ((ls).drop k), SlT (rb), RwT B r, RwT B r] [[(0, none)], [(3, none)], [(19, some 0), (20, some 1)], [(21, some 2)], [(0, none)], [(3, none)], [(23, some 4), (24, some 5)], [(25, some 6)], [(22, some 3), (26, some 7)], [(27, some 8)]] (by kernel_rfl) ?_ ?_ ?_
      · simp only [List.mem_cons, List.not_mem_nil, or_false]
        intro R hR
        rcases hR with rfl | rfl | rfl | rfl | rfl | rfl | rfl | rfl | rfl | rfl <;> first | exact stable_is _ | exact stable_lcm _ | exact stable_sl _ | exact stable_rw _ _
      · refine steps_cons (fun a w hk hn => ?_) ?_
        · have h0 : a.eval (.tmp 0) = .slice ao n c := hn.1
          clear hn
          refine wants_plain rfl ?_
          exact grown_move (.tmp 0) rfl h0
        refine steps_cons (fun a w hk hn => ?_) ?_
        · have h3 : a.eval (.tmp 3) = .int .i64 k := hn.1
          clear hn
          refine wants_plain rfl ?_
          exact grown_move (.tmp 3) rfl h3
        refine steps_cons (fun a w hk hn => ?_) ?_
        · have h19 : a.eval (.tmp 19) = .slice ao n c := hn.1
          have h20 : a.eval (.tmp 20) = .int .i64 k := hn.2.1
          clear hn
          refine wants_plain rfl ?_
          exact grown_lhead (.tmp 19) (.tmp 20) (ls) k rfl (by rw [h19]; exact unhide HLL w hk) h20 (unhide HKL)
        refine steps_cons (fun a w hk hn => ?_) ?_
        · have h21 : (LcM ((ls).take k)) (a.eval (.tmp 21)) w := hn.1
          clear hn
          refine wants_plain rfl ?_
          refine grown_call (f := 40) rfl Tryz.func40 (by kernel_rfl) (by kernel_rfl) ?_
          simp only [List.map_toArray, List.map_cons, List.map_nil]
          refine (unhide HA _ w h21 (unhide HGL w hk)).mono ?_
          rintro e w' ⟨ao, m, c, rfl, R, K⟩
          exact ⟨_, rfl, K, R.sl⟩
        refine steps_cons (fun a w hk hn => ?_) ?_
        · have h0 : a.eval (.tmp 0) = .slice ao n c := hn.1
          clear hn
          refine wants_plain rfl ?_
          exact grown_move (.tmp 0) rfl h0
        refine steps_cons (fun a w hk hn => ?_) ?_
        · have h3 : a.eval (.tmp 3) = .int .i64 k := hn.1
          clear hn
          refine wants_plain rfl ?_
          exact grown_move (.tmp 3) rfl h3
        refine steps_cons (fun a w hk hn => ?_) ?_
        · have h23 : a.eval (.tmp 23) = .slice ao n c := hn.1
          have h24 : a.eval (.tmp 24) = .int .i64 k := hn.2.1
          clear hn
          refine wants_plain rfl ?_
          exact grown_lfrom (.tmp 23) (.tmp 24) (ls) k rfl (by rw [h23]; exact unhide HLL w hk) h24 (unhide HKL)
        refine steps_cons (fun a w hk hn => ?_) ?_
        · have h25 : (LcM ((ls).drop k)) (a.eval (.tmp 25)) w := hn.1
          clear hn
          refine wants_plain rfl ?_
          refine grown_call (f := 40) rfl Tryz.func40 (by kernel_rfl) (by kernel_rfl) ?_
          simp only [List.map_toArray, List.map_cons, List.map_nil]
          refine (unhide HB _ w h25 (unhide HGL w hk)).mono ?_
          rintro e w' ⟨ao, m, c, rfl, R, K⟩
          exact ⟨_, rfl, K, R.sl⟩
        refine steps_cons (fun a w hk hn => ?_) ?_
        · have h22 : Sl w (a.eval (.tmp 22)) (ra) := hn.1
          have h26 : Sl w (a.eval (.tmp 26)) (rb) := hn.2.1
          clear hn
          refine wants_plain rfl ?_
          refine grown_call (f := 65) rfl Tryz.func65 (by kernel_rfl) (by kernel_rfl) ?_
          simp only [List.map_toArray, List.map_cons, List.map_nil]
          refine (tnode_any _ _ ra rb r (unhide HR) w h22 (unhide HAb) (by omega) h26 (unhide HBb) (by omega) (unhide HGL w hk)).mono ?_
          rintro e w' ⟨ao, m, c, rfl, R, K⟩
          exact ⟨_, rfl, K, ⟨ao, m, c, rfl, owns_rebase R (fun i hi => Nat.le_trans (unhide HBW w hk) (Row.own R i hi))⟩⟩
        refine steps_cons (fun a w hk hn => ?_) ?_
        · have h27 : (RwT B r) (a.eval (.tmp 27)) w := hn.1
          clear hn
          refine wants_plain rfl ?_
          exact grown_assign (.tmp 27) rfl h27
        exact trivial
      intro W1 hkW1
      rintro _ rfl
      rintro _ rfl
      intro v21 h21
      intro v22 h22
      rintro _ rfl
      rintro _ rfl
      intro v25 h25
      intro v26 h26
      intro v27 h27
      intro v2 h2
      refine fin_nil ?_
      simp only [Act.put, List.set_cons_zero, List.set_cons_succ, List.setIfInBounds_toArray]
      obtain ⟨ao2, m2, c2, rfl, R2⟩ := h2
      rw [unhide HBB] at R2
      have HR2 := hide R2
      have HK2 := hide ((kp_drew w).trans hkW1)
      clear R2 h27 h26 h25 h22 h21 hkW1
      go_wp2_with fail
      go_ret
      exact ⟨ao2, m2, c2, rfl, unhide HR2, unhide HK2⟩
end Go.Proofs.YtillhpgdlmeajabGreatDoor

/-
  The contracts of package ledger: leaves, Root, Entry, Public, KeysLeft, isSize.
-/
namespace Go.Proofs.YtillhpgdlmeajabGreatDoor
open Go.RowKit
open Go.Proofs
set_option linter.unusedVariables false
theorem RowU.room {w : World} {base m c : Nat} {ao : Option Addr} {l : List (List Int)} (h : RowU w base (.slice ao m c) l) : m ≤ c ∧ c ≤ maxLen ∧ (ao = none → c = 0) := by
  rcases h.2 with ⟨h', h0⟩ | ⟨g, cap, cur, h', hb, hg, hc, hx, hs, ht⟩
  · injection h' with h1 h2 h3
    exact ⟨by omega, by rw [h3]; unfold maxLen; omega, fun _ => h3⟩
  · injection h' with h1 h2 h3
    subst h3
    rw [h2]
    exact ⟨hc, by omega, fun e => by rw [h1] at e; cases e⟩
theorem run_ufirst (ao : Option Addr) (n c k : Nat) (w : World) (h2 : k ≤ c) (h4 : ao = none → c = 0) :
    (Instr.sliceAt 80 (.slice ao n c) none (some (.int .i64 (k : Nat))) none).run Tryz.prog w = .ok (.slice ao k c) w := by
  cases ao with
  | none =>
    have h0 := h4 rfl
    obtain rfl : k = 0 := by omega
    subst h0
    simp [go_sem, Tryz.underlying80]
  | some a =>
    have : (k : Int) ≤ (c : Int) := by omega
    simp [go_sem, Tryz.underlying80, this]
theorem Acc.lcm {w wr : World} {ls : List (List Int)} {v : Value} (h : Acc w ls v wr) (hl : ls.length ≤ 1000) : LcM ls v wr := by
  obtain ⟨l, h1, h2, _⟩ := h
  exact ⟨l, lc_of_owns h1.1 (h1.lists (by rw [← List.length_map (f := (·.2)), h2]; exact hl)), h2⟩
section
variable {w0 w : World} {l pd pk : Nat} {S : LS} {f : Fps}
set_option maxRecDepth 100000 in
set_option maxHeartbeats 4000000 in
theorem uleaves_any (h : Lg w0 w l pd pk S f) (n : Nat) (hn : n ≤ S.its.length) (hG : Gl w) :
    Calls Tryz.prog 41 #[.pointer (some ⟨l, 0, none⟩), .int .i64 n] w fun e w' => ∃ ao m c, e = .returned (.slice ao m c) ∧ Acc w ((S.its.take n).map tleafP) (.slice ao m c) w' := by
  obtain ⟨j, s, q, vs, pv, hx⟩ := h
  obtain ⟨v2, b2, hSc, hRU, -⟩ := hx.sh.ex
  have hbs := hx.sh.bs
  have hfew := hx.few
  obtain ⟨a2, c2, rfl⟩ := hRU.shape
  obtain ⟨r1, r2, r3⟩ := hRU.room
  obtain ⟨i0, hi0, hz0, hz1, hz2⟩ := info_parts Tryz.infoSl
  have HAt := hide hx.at_
  have HSc := hide hSc
  have HRU := hide hRU
  have HBs := hide hbs
  have HG := hide hG
  have hrun := fun wr => run_ufirst a2 S.its.length c2 n wr (by omega) r3
  have hnf : n ≤ 256 := by omega
  have HN := hide hn
  clear hx hSc hRU hbs hG r1 r2 r3 hn hfew
  go_enter Tryz.func41, Tryz.ntmps41
  go_wp2_with (at_make; refine wpList_make_own _ rfl _ _ 31 rfl w.heap.size 29 i0 (.slice none 0 0) 1 Tryz.underlying31 hi0 hz0 hz1 .i64 .i64 _ n rfl rfl rfl (by rw [hz2]; omega) (by unfold maxLen; omega) (Nat.le_refl _) ?_; intro w1 o1 g1; refine Hid.out ?_)
  have K1 : Kp [] w w1 := (Kp.refl [] w).grown g1 (by intro k hk; cases hk)
  have hc1 := (HAt.out.kept K1 (by simp)).c1
  have hc0 : w1.cell? ⟨s, 0, none⟩ = some (.slice a2 S.its.length c2) := K1.cell HSc.out.c0 (by simp)
  have HA : Hid (Acc w ((S.its.take 0).map tleafP) (.slice (some ⟨w.heap.size, 0, none⟩) 0 n) w1) := ⟨[], ⟨o1, by simp⟩, by simp, K1⟩
  have hr1 := hrun w1
  clear o1 g1 K1 hrun
  refine hide ?_
  go_wp2_with fail
  go_loopw [5, 20] (fun o i wr => ∃ k : Nat, k ≤ n ∧ i = .int .i64 k ∧ (∃ ao m c, o = .slice ao m c) ∧ Acc w ((S.its.take k).map tleafP) o wr) (fun _ i _ => n - (intOf i).toNat)
  case atStart => exact ⟨0, by omega, rfl, ⟨_, _, _, rfl⟩, HA.out⟩
  case round =>
    obtain ⟨k, hk, rfl, ⟨ao, m, c, rfl⟩, A⟩ := hrel
    have HAk := hide A
    clear A HA hr1 hc1 hc0
    by_cases hlt : k < n
    · have hlt' : (k : Int) < (n : Int) := by omega
      have hkl : k < S.its.length := by have := HN.out; omega
      obtain ⟨g, rfl, hc⟩ := (HRU.out.kept HAk.out.kp (by simp)).at k hkl
      obtain ⟨hBx, hlx⟩ := HBs.out S.its[k] (List.getElem_mem hkl)
      have htk : S.its.take (k + 1) = S.its.take k ++ [S.its[k]] := List.take_succ_eq_append_getElem hkl
      obtain ⟨x, hxx⟩ : ∃ x, x = S.its[k] := ⟨_, rfl⟩
      rw [← hxx] at hc hBx hlx htk
      obtain ⟨c5, w5, hcv, S5, K5⟩ := conv_big (strOfNums x) wr (by rw [str_size]; omega)
      rw [nums_str x hBx] at S5
      have HLf := hide (tleaf_any _ x (tleafP x) rfl w5 S5 hBx (by omega) (HG.out.kept (HAk.out.kp.trans K5) (by simp)))
      have HK5 := hide K5
      have HTK := hide htk
      have hal : ((S.its.take k).map tleafP).length ≤ 256 := by rw [List.length_map, List.length_take]; omega
      clear S5 K5 htk hxx
      go_wp2_with fail
      refine HLf.out.mono ?_
      rintro ee w6 ⟨a6, m6, c6, rfl, R6, K6⟩
      have HR6 := hide (row_new R6 HK5.out)
      have HK6 := hide (HK5.out.trans K6)
      clear HLf R6 K6 hcv hc
      go_wp2_with (at_builtin; refine wpList_acc rfl (.tmp 24) (.tmp 28) rfl (.slice ao m c) _ rfl HAk.out (by omega) _ _ HK6.out HR6.out (sha_bs _) rfl ?_; intro a7 m7 c7 w7 A7)
      go_roundw
      case rel => exact ⟨k + 1, by omega, by go_num, ⟨a7, m7, c7, rfl⟩, by rw [HTK.out, List.map_append]; exact A7⟩
      case measure => simp [intOf]; omega
    · have hkn : k = n := by omega
      have hnlt : ¬ (k : Int) < (n : Int) := by omega
      have HAn : Hid (Acc w ((S.its.take n).map tleafP) (.slice ao m c) wr) := by rw [← hkn]; exact HAk.out
      clear hkn HAk
      go_wp2_with fail
      go_ret
      exact ⟨ao, m, c, rfl, by rw [← List.map_take]; exact HAn.out⟩
theorem uroot_any (h : Lg w0 w l pd pk S f) (r : List Int) (hr : r = rtU S.its) (hG : Gl w) :
    Calls Tryz.prog 17 #[.pointer (some ⟨l, 0, none⟩)] w fun e w' => ∃ ao m c, e = .returned (.slice ao m c) ∧ Row w' w.heap.size (.slice ao m c) r ∧ Kp [] w w' := by
  have HZ := hide (usize_any h _ rfl)
  have HLv := hide (uleaves_any h S.its.length (Nat.le_refl _) hG)
  have hfew := h.few
  have HG := hide hG
  have HR := hide hr
  rw [List.take_length] at HLv
  obtain ⟨n, hn⟩ : ∃ n, n = S.its.length := ⟨_, rfl⟩
  rw [← hn] at HZ HLv hfew
  have HN := hide hn
  clear h hG hr hn
  go_enter Tryz.func17, Tryz.ntmps17
  go_wp2_with fail
  refine HZ.out.mono ?_
  rintro ee w1 ⟨rfl, hw⟩
  subst w1
  clear HZ
  go_wp2_with fail
  refine HLv.out.mono ?_
  rintro ee w1 ⟨ao, m, c, rfl, A1⟩
  have HRt := hide (troot_any n _ (S.its.map tleafP) r w1 HR.out (by rw [List.length_map]; exact HN.out.symm) (by omega) (A1.lcm (by rw [List.length_map, ← HN.out]; omega)) (fun x hx => by
    obtain ⟨y, _, rfl⟩ := List.mem_map.1 hx
    have := sha_len (0 :: y); unfold tleafP; omega) (HG.out.kept A1.kp (by simp)))
  have HK1 := hide A1.kp
  clear HLv A1
  go_wp2_with fail
  refine HRt.out.mono ?_
  rintro ee w2 ⟨a2, m2, c2, rfl, R2, K2⟩
  have HR2 := hide (row_new R2 HK1.out)
  have HK2 := hide (HK1.out.trans K2)
  clear HRt R2 K2
  go_wp2_with fail
  go_ret
  exact ⟨a2, m2, c2, rfl, HR2.out, HK2.out⟩
theorem ukeys_any (h : Lg w0 w l pd pk S f) (x : Int) (hx : x = 16 - (S.n : Int)) : Calls Tryz.prog 37 #[.pointer (some ⟨l, 0, none⟩)] w fun e w' => e = .returned (.int .i64 x) ∧ w' = w := by
  obtain ⟨j, s, q, vs, pv, h⟩ := h
  have hc := h.at_.c2
  have HZ := hide (left_keys h.bf.bx h.nk x hx)
  clear h hx
  go_enter Tryz.func37, Tryz.ntmps37
  go_wp2_with fail
  refine HZ.out.mono ?_
  rintro ee w1 ⟨rfl, hw⟩
  subst w1
  clear HZ
  go_wp2_with fail
  go_ret
  exact ⟨rfl, rfl⟩
end
end Go.Proofs.YtillhpgdlmeajabGreatDoor

/-
  The contracts of package ledger: copyOfEach, copyOf.
-/
namespace Go.Proofs.YtillhpgdlmeajabGreatDoor
open Go.RowKit
open Go.Proofs
set_option linter.unusedVariables false
def RO (B : Nat) (r : List Int) : Tell := fun v w => ∃ a m c, v = .slice a m c ∧ Sl w (.slice a m c) r ∧ ∀ k, (Value.slice a m c).ownBlock = some k → B ≤ k
theorem stable_ro (B : Nat) (r : List Int) : Tell.stable (RO B r) := fun _ _ _ k ⟨a, m, c, e, h1, h2⟩ => ⟨a, m, c, e, h1.kept k (by simp), h2⟩
/-- the block of a slice may be written. -/
def Fz (w : World) (v : Value) : Prop := ∀ g, v.ownBlock = some g → g < w.heap.size ∧ ∀ k, w.frozen? ⟨g, k, none⟩ = false
theorem frz_kept {w w' : World} {S : List Nat} {g i : Nat} (k : Kp S w w') (hl : g < w.heap.size) (hn : g ∉ S) (h : w.frozen? ⟨g, i, none⟩ = false) : w'.frozen? ⟨g, i, none⟩ = false := by
  have e := k.block g hl hn
  unfold World.frozen? at h ⊢
  simp only at h ⊢
  rw [e]
  exact h
theorem Fz.kept {w w' : World} {v : Value} {S : List Nat} (h : Fz w v) (k : Kp S w w') (hS : ∀ g, v.ownBlock = some g → g ∉ S) : Fz w' v := fun g hg => ⟨Nat.lt_of_lt_of_le (h g hg).1 k.size, fun i => frz_kept k (h g hg).1 (hS g hg) ((h g hg).2 i)⟩
theorem Row.fz {w : World} {base : Nat} {v : Value} {bs : List Int} (h : Row w base v bs) : Fz w v := by
  intro g hg
  rcases h.2 with ⟨e, _⟩ | ⟨g', cap, cur, e, hb, hh, _⟩
  · rw [e] at hg; cases hg
  · rw [e] at hg
    obtain rfl : g' = g := by simpa [Value.ownBlock] using hg
    refine ⟨(Array.getElem?_eq_some_iff.1 hh).1, fun k => ?_⟩
    unfold World.frozen?
    simp [hh]
def RF (B : Nat) (r : List Int) : Tell := fun v w => RO B r v w ∧ Fz w v
theorem stable_rf (B : Nat) (r : List Int) : Tell.stable (RF B r) := fun v w w' k ⟨h1, h2⟩ => ⟨stable_ro B r _ _ _ k h1, h2.kept k (by simp)⟩
def CkF (B : Nat) (n : Int) (r : List Int) : Tell := fun v w => ∃ vr, v = .agg #[.int .i64 n, vr] ∧ RF B r vr w
theorem stable_ckf (B : Nat) (n : Int) (r : List Int) : Tell.stable (CkF B n r) := fun _ _ _ k ⟨vr, e, h⟩ => ⟨vr, e, stable_rf B r _ _ _ k h⟩
/-- a signed checkpoint that stays so whatever becomes of the blocks below b; its root may be written. -/
def SgU (b : Nat) (w : World) (v : Value) (s : Sg) : Prop := SgA b w v s ∧ ∀ n vr i p q, v = .agg #[n, vr, i, p, q] → Fz w vr ∧ ∀ g, vr.ownBlock = some g → b ≤ g
theorem SgU.v {b : Nat} {w : World} {v : Value} {s : Sg} (h : SgU b w v s) : SgV w v s := h.1.v
theorem SgU.f {b : Nat} {w w' : World} {v : Value} {s : Sg} (h : SgU b w v s) (k : Kp [] w w') : SgF (fun i => b ≤ i ∧ i < w'.heap.size) w' v s := h.1.f k
theorem SgU.low {b c : Nat} {w : World} {v : Value} {s : Sg} (h : SgU b w v s) (hc : c ≤ b) : SgU c w v s := ⟨h.1.low hc, fun n vr i p q e => ⟨(h.2 n vr i p q e).1, fun g hg => Nat.le_trans hc ((h.2 n vr i p q e).2 g hg)⟩⟩
theorem SgU.kept {b : Nat} {w w' : World} {v : Value} {s : Sg} {S : List Nat} (h : SgU b w v s) (hS : ∀ q ∈ S, q < b) (k : Kp S w w') : SgU b w' v s :=
  ⟨h.1.kept hS k, fun n vr i p q e => ⟨(h.2 n vr i p q e).1.kept k (fun g hg hm => by have := (h.2 n vr i p q e).2 g hg; have := hS g hm; omega), (h.2 n vr i p q e).2⟩⟩
/-- a list that stays so whatever becomes of the blocks below B. -/
def LO (B : Nat) (ls : List (List Int)) : Tell := fun v w => ∃ a m c, v = .slice a m c ∧ ∀ (S : List Nat) (w2 : World), (∀ q ∈ S, q < B) → Kp S w w2 → ∃ l, Lists w2 (.slice a m c) l ∧ l.map (·.2) = ls
theorem stable_lo (B : Nat) (ls : List (List Int)) : Tell.stable (LO B ls) := fun _ _ _ k ⟨a, m, c, e, h⟩ => ⟨a, m, c, e, fun S w2 hS k2 => h S w2 hS ((k.mono (by simp)).trans k2)⟩
def SigO (B : Nat) (i : Int) (ps qs : List (List Int)) : Tell := fun v w => ∃ vp vq, v = .agg #[.int .i64 i, vp, vq] ∧ LO B ps vp w ∧ LO B qs vq w
theorem stable_sigo (B : Nat) (i : Int) (ps qs : List (List Int)) : Tell.stable (SigO B i ps qs) := fun _ _ _ k ⟨vp, vq, e, h1, h2⟩ => ⟨vp, vq, e, stable_lo B ps _ _ _ k h1, stable_lo B qs _ _ _ k h2⟩
def SgdO (B : Nat) (s : Sg) : Tell := fun v w => ∃ vr vp vq, v = .agg #[.int .i64 s.n, vr, .int .i64 s.i, vp, vq] ∧ RF B s.r vr w ∧ LO B s.ps vp w ∧ LO B s.qs vq w
theorem stable_sgdo (B : Nat) (s : Sg) : Tell.stable (SgdO B s) := fun _ _ _ k ⟨vr, vp, vq, e, h1, h2, h3⟩ => ⟨vr, vp, vq, e, stable_rf B s.r _ _ _ k h1, stable_lo B s.ps _ _ _ k h2, stable_lo B s.qs _ _ _ k h3⟩
theorem grown_bck {o : Oper} {a : Act} {w : World} {B : Nat} {n : Int} {r : List Int} (x0 x1 : Operand) (ho : o.op = .build 50 #[(0, x0), (1, x1)]) (h0 : a.eval x0 = .int .i64 n) (h1 : RF B r (a.eval x1) w) :
    grown Tryz.prog w (CkF B n r) ((execOp a.eval o).run Tryz.prog w) := by
  obtain ⟨⟨ar, mr, cr, e, h2, h3⟩, h4⟩ := h1
  rw [e] at h4
  refine grown_run (v := .agg #[.int .i64 n, .slice ar mr cr]) ?_ (Kp.refl _ _) ⟨_, rfl, ⟨ar, mr, cr, rfl, h2, h3⟩, h4⟩
  obtain ⟨ρ, hρ, _⟩ := eval_is a
  rw [hρ] at e h0 ⊢
  unfold execOp
  simp only [ho]
  simp [go_sem, e, h0]
theorem grown_bsig {o : Oper} {a : Act} {w : World} {B : Nat} {i : Int} {ps qs : List (List Int)} (x0 x1 x2 : Operand) (ho : o.op = .build 52 #[(0, x0), (1, x1), (2, x2)]) (h0 : a.eval x0 = .int .i64 i) (h1 : LO B ps (a.eval x1) w) (h2 : LO B qs (a.eval x2) w) :
    grown Tryz.prog w (SigO B i ps qs) ((execOp a.eval o).run Tryz.prog w) := by
  obtain ⟨ap, mp, cp, e1, g1⟩ := h1
  obtain ⟨aq, mq, cq, e2, g2⟩ := h2
  refine grown_run (v := .agg #[.int .i64 i, .slice ap mp cp, .slice aq mq cq]) ?_ (Kp.refl _ _) ⟨_, _, rfl, ⟨ap, mp, cp, rfl, g1⟩, ⟨aq, mq, cq, rfl, g2⟩⟩
  obtain ⟨ρ, hρ, _⟩ := eval_is a
  rw [hρ] at e1 e2 h0 ⊢
  unfold execOp
  simp only [ho]
  simp [go_sem, e1, e2, h0]
theorem grown_bsgd {o : Oper} {a : Act} {w : World} {B : Nat} {n i : Int} {r : List Int} {ps qs : List (List Int)} (x0 x1 : Operand) (ho : o.op = .build 54 #[(0, x0), (1, x1)]) (h0 : CkF B n r (a.eval x0) w) (h1 : SigO B i ps qs (a.eval x1) w) :
    grown Tryz.prog w (SgdO B ⟨n, r, i, ps, qs⟩) ((execOp a.eval o).run Tryz.prog w) := by
  obtain ⟨vr, e, ⟨ar, mr, cr, rfl, h2, h3⟩, h4⟩ := h0
  obtain ⟨vp, vq, e1, ⟨ap, mp, cp, rfl, g1⟩, ⟨aq, mq, cq, rfl, g2⟩⟩ := h1
  refine grown_run (v := .agg #[.int .i64 n, .slice ar mr cr, .int .i64 i, .slice ap mp cp, .slice aq mq cq]) ?_ (Kp.refl _ _) ⟨_, _, _, rfl, ⟨⟨ar, mr, cr, rfl, h2, h3⟩, h4⟩, ⟨ap, mp, cp, rfl, g1⟩, ⟨aq, mq, cq, rfl, g2⟩⟩
  obtain ⟨ρ, hρ, _⟩ := eval_is a
  rw [hρ] at e e1 ⊢
  unfold execOp
  simp only [ho]
  simp [go_sem, e, e1]
theorem Acc.lo {B : Nat} {w wr : World} {ls : List (List Int)} {a : Option Addr} {m c : Nat} (h : Acc w ls (.slice a m c) wr) (hB : B ≤ w.heap.size) (hl : ls.length ≤ 1000) : LO B ls (.slice a m c) wr := by
  obtain ⟨l, h1, h2, h3⟩ := h
  refine ⟨a, m, c, rfl, fun S w2 hS k => ⟨l, (h1.keptS k (fun i hi => by have := hS i hi; omega)).lists (by rw [← List.length_map (f := (·.2)), h2]; exact hl), h2⟩⟩
set_option maxRecDepth 100000 in
set_option maxHeartbeats 4000000 in
theorem ueach_any (v : Value) (l : List (Value × List Int)) (ls : List (List Int)) (w : World) (hL : Lists w v l) (hls : l.map (·.2) = ls) (hn : ls.length ≤ 1000) (hm : ∀ x ∈ ls, x.length ≤ 1000) :
    Calls Tryz.prog 69 #[v] w fun e w' => ∃ ao m c, e = .returned (.slice ao m c) ∧ Acc w ls (.slice ao m c) w' := by
  have hB := hL.bs
  obtain ⟨al, cl, rfl, -, hcell⟩ := hL
  obtain ⟨i0, hi0, hz0, hz1, hz2⟩ := info_parts Tryz.infoSl
  obtain ⟨N, hN⟩ : ∃ N, N = l.length := ⟨_, rfl⟩
  have hNl : ls.length = N := by rw [← hls, hN]; simp
  have hget : ∀ k (hk : k < N), ∃ (hk2 : k < ls.length), ∃ b off, al = some ⟨b, off, none⟩ ∧ ∃ u, w.cell? ⟨b, off + k, none⟩ = some u ∧ Sl w u ls[k] ∧ Bs ls[k] := fun k hk => by
    have hk1 : k < l.length := by omega
    obtain ⟨b, off, e, h1, h2, h3⟩ := hcell k hk1
    have hk2 : k < ls.length := by omega
    have e2 : ls[k] = l[k].2 := by simp [← hls]
    exact ⟨hk2, b, off, e, l[k].1, h1, by rw [e2]; exact h2, by rw [e2]; exact h3⟩
  rw [← hN]
  have HGet := hide hget
  have HM := hide hm
  have HNl := hide hNl
  have hN1 : N ≤ 1000 := by omega
  clear hcell hget hB hls hN hn hm hNl
  go_enter Tryz.func69, Tryz.ntmps69
  go_wp2_with (at_make; refine wpList_make_own _ rfl _ _ 31 rfl w.heap.size 29 i0 (.slice none 0 0) 1 Tryz.underlying31 hi0 hz0 hz1 .i64 .i64 _ N rfl rfl rfl (by rw [hz2]; omega) (by unfold maxLen; omega) (Nat.le_refl _) ?_; intro w1 o1 g1; refine Hid.out ?_)
  have K1 : Kp [] w w1 := (Kp.refl [] w).grown g1 (by intro k hk; cases hk)
  have HA : Hid (Acc w (ls.take 0) (.slice (some ⟨w.heap.size, 0, none⟩) 0 N) w1) := ⟨[], ⟨o1, by simp⟩, by simp, K1⟩
  clear o1 g1 K1
  refine hide ?_
  go_wp2_with fail
  go_loopw [3, 11] (fun o i wr => ∃ k : Nat, k ≤ N ∧ i = .int .i64 k ∧ (∃ ao m c, o = .slice ao m c) ∧ Acc w (ls.take k) o wr) (fun _ i _ => N - (intOf i).toNat)
  case atStart => exact ⟨0, by omega, rfl, ⟨_, _, _, rfl⟩, HA.out⟩
  case round =>
    obtain ⟨k, hk, rfl, ⟨ao, m, c, rfl⟩, A⟩ := hrel
    have HAk := hide A
    clear A HA
    by_cases hlt : k < N
    · have hlt' : (k : Int) < (N : Int) := by omega
      obtain ⟨hk2, b, off, rfl, u, hu, hSu, hBu⟩ := HGet.out k hlt
      have hcu := HAk.out.kp.cell hu (by simp)
      have htk : ls.take (k + 1) = ls.take k ++ [ls[k]] := List.take_succ_eq_append_getElem hk2
      have hxm := HM.out _ (List.getElem_mem hk2)
      obtain ⟨x, hxx⟩ : ∃ x, x = ls[k] := ⟨_, rfl⟩
      rw [← hxx] at hSu hBu htk hxm
      have HCl := hide (dclone_any u x wr (hSu.kept HAk.out.kp (by simp)) (by omega))
      obtain ⟨ax, cx, hux, -⟩ := id hSu
      obtain ⟨nx, hnx⟩ : ∃ n, n = x.length := ⟨_, rfl⟩
      rw [← hnx] at hux
      rw [hux] at hcu HCl
      have HTK := hide htk
      have HBu := hide hBu
      have hal : (ls.take k).length ≤ 1000 := by rw [List.length_take]; omega
      clear hSu hBu htk hxx hu hux hnx hxm
      go_wp2_with fail
      refine HCl.out.mono ?_
      rintro ee w6 ⟨a6, m6, c6, rfl, R6, K6⟩
      have HR6 := hide R6
      have HK6 := hide K6
      clear HCl R6 K6 hcu
      go_wp2_with (at_builtin; refine wpList_acc rfl (.tmp 15) (.tmp 18) rfl (.slice ao m c) _ rfl HAk.out (by omega) _ _ HK6.out HR6.out HBu.out rfl ?_; intro a7 m7 c7 w7 A7)
      go_roundw
      case rel => exact ⟨k + 1, by omega, by go_num, ⟨a7, m7, c7, rfl⟩, by rw [HTK.out]; exact A7⟩
      case measure => simp [intOf]; omega
    · have hkn : k = N := by omega
      have hnlt : ¬ (k : Int) < (N : Int) := by omega
      have HAn : Hid (Acc w ls (.slice ao m c) wr) := by
        have := HAk.out
        rwa [List.take_of_length_le (by have := HNl.out; omega)] at this
      clear hkn HAk
      go_wp2_with fail
      go_ret
      exact ⟨ao, m, c, rfl, HAn.out⟩
/-- no part of a signature is long. -/
structure Sg.Small (s : Sg) : Prop where
  r : s.r.length ≤ 1000
  ps : s.ps.length ≤ 1000
  qs : s.qs.length ≤ 1000
  pm : ∀ x ∈ s.ps, x.length ≤ 1000
  qm : ∀ x ∈ s.qs, x.length ≤ 1000
set_option maxRecDepth 100000 in
set_option maxHeartbeats 4000000 in
theorem ucopy_any (v : Value) (s : Sg) (w : World) (hV : SgV w v s) (hs : s.Small) :
    Calls Tryz.prog 43 #[v] w fun e w' => ∃ v', e = .returned v' ∧ SgU w.heap.size w' v' s ∧ Kp [] w w' := by
  obtain ⟨n, r, i, ps, qs⟩ := s
  obtain ⟨h1, h2, h3, h4, h5⟩ := hs
  simp only at h1 h2 h3 h4 h5
  obtain ⟨ar, mr, cr, vp, vq, rfl, ⟨hSr, hBr⟩, hSig⟩ := hV
  obtain ⟨vp', vq', lp, lq, e, hLp, hlp, hLq, hlq⟩ := hSig
  simp only [Value.agg.injEq, Array.mk.injEq, List.cons.injEq, and_true, true_and] at e
  obtain ⟨rfl, rfl⟩ := e
  simp only at hSr hBr hlp hlq
  obtain ⟨ap, cp, hvp, -⟩ := id hLp
  obtain ⟨aq, cq, hvq, -⟩ := id hLq
  obtain ⟨np, hnp⟩ : ∃ n, n = lp.length := ⟨_, rfl⟩
  obtain ⟨nq, hnq⟩ : ∃ n, n = lq.length := ⟨_, rfl⟩
  rw [← hnp] at hvp
  rw [← hnq] at hvq
  subst hvp hvq
  obtain ⟨w2, hw2⟩ : ∃ w2, w2 = (w.alloc (.cells #[.int .i64 n, .slice ar mr cr, .int .i64 i, .slice ap np cp, .slice aq nq cq] 54)).alloc (.cells #[.int .i64 0, .slice none 0 0, .int .i64 0, .slice none 0 0, .slice none 0 0] 54) := ⟨_, rfl⟩
  obtain ⟨g1, hg1⟩ : ∃ g, g = w.heap.size := ⟨_, rfl⟩
  obtain ⟨g2, hg2⟩ : ∃ g, g = w.heap.size + 1 := ⟨_, rfl⟩
  have K2 : Kp [] w w2 := by rw [hw2]; exact ((Kp.refl [] w).alloc _).alloc _
  have G1 : w2.heap[g1]? = some (.cells #[.int .i64 n, .slice ar mr cr, .int .i64 i, .slice ap np cp, .slice aq nq cq] 54 (0, 0)) := by rw [hw2, hg1]; exact heap_alloc2_old w _ _
  have G2 : w2.heap[g2]? = some (.cells #[.int .i64 0, .slice none 0 0, .int .i64 0, .slice none 0 0, .slice none 0 0] 54 (0, 0)) := by rw [hw2, hg2]; exact heap_alloc2_new w _ _
  have HD : Hid (∀ w', Kp [] w2.drew w' → Kp [] w2 w') := fun w' k' => (kp_drew w2).trans k'
  have HS1 : Hid (∀ w', Kp [] w2.drew w' → w'.heap[g1]? = some (.cells #[.int .i64 n, .slice ar mr cr, .int .i64 i, .slice ap np cp, .slice aq nq cq] 54 (0, 0))) := fun w' k' => (unhide HD w' k').heap G1 (by simp)
  have HSr : Hid (∀ w', Kp [] w2.drew w' → Sl w' (.slice ar mr cr) r) := fun w' k' => hSr.kept (K2.trans (unhide HD w' k')) (by simp)
  have HSp : Hid (∀ w', Kp [] w2.drew w' → Lists w' (.slice ap np cp) lp) := fun w' k' => hLp.kept (K2.trans (unhide HD w' k'))
  have HSq : Hid (∀ w', Kp [] w2.drew w' → Lists w' (.slice aq nq cq) lq) := fun w' k' => hLq.kept (K2.trans (unhide HD w' k'))
  have HRL : Hid (r.length ≤ 100000000) := hide (by omega)
  have HPe := hide hlp
  have HQe := hide hlq
  have HPn := hide h2
  have HQn := hide h3
  have HPm := hide h4
  have HQm := hide h5
  have HBr := hide hBr
  have HK2 := hide K2
  have HG2 := hide G2
  have HW2 := hide hw2
  have H1 := hide hg1
  have H2 := hide hg2
  clear h1 h2 h3 h4 h5 hSr hBr hLp hLq hlp hlq K2 G1 G2 hw2 hg1 hg2 hnp hnq
  go_enter Tryz.func43, Tryz.ntmps43
  go_wp2_with fail
  rw [← unhide HW2, ← unhide H2, ← unhide H1]
  refine region_grow_tail 21 Tryz.mixed [Is (.pointer (some ⟨g1, 0, none⟩)), Is (.pointer (some ⟨g1, 0, none⟩)), Is (.int .i64 n), Is (.pointer (some ⟨g1, 0, none⟩)), Is (.pointer (some ⟨g1, 1, none⟩)), Is (.slice ar mr cr), RF w2.drew.heap.size r, CkF w2.drew.heap.size n r, Is (.pointer (some ⟨g1, 2, none⟩)), Is (.pointer (some ⟨g1, 2, none⟩)), Is (.int .i64 i), Is (.pointer (some ⟨g1, 2, none⟩)), Is (.pointer (some ⟨g1, 3, none⟩)), Is (.slice ap np cp), LO w2.drew.heap.size ps, Is (.pointer (some ⟨g1, 2, none⟩)), Is (.pointer (some ⟨g1, 4, none⟩)), Is (.slice aq nq cq), LO w2.drew.heap.size qs, SigO w2.drew.heap.size i ps qs, SgdO w2.drew.heap.size ⟨n, r, i, ps, qs⟩] [[(1, none)], [(3, some 0)], [(4, some 1)], [(1, none)], [(6, some 3)], [(7, some 4)], [(8, some 5)], [(5, some 2), (9, some 6)], [(1, none)], [(11, some 8)], [(12, some 9)], [(1, none)], [(14, some 11)], [(15, some 12)], [(16, some 13)], [(1, none)], [(18, some 15)], [(19, some 16)], [(20, some 17)], [(13, some 10), (17, some 14), (21, some 18)], [(10, some 7), (22, some 19)]] (by kernel_rfl) ?_ ?_ ?_
  all_goals try simp only [List.take_succ_cons, List.take_zero, List.drop_succ_cons, List.drop_zero]
  · simp only [List.mem_cons, List.not_mem_nil, or_false]
    intro R hR
    rcases hR with rfl | rfl | rfl | rfl | rfl | rfl | rfl | rfl | rfl | rfl | rfl | rfl | rfl | rfl | rfl | rfl | rfl | rfl | rfl | rfl | rfl <;> first | exact stable_is _ | exact stable_rf _ _ | exact stable_ckf _ _ _ | exact stable_lo _ _ | exact stable_sigo _ _ _ _ | exact stable_sgdo _ _
  · refine steps_cons (fun a w hk hn => ?_) ?_
    · have h1 : a.eval (.tmp 1) = .pointer (some ⟨g1, 0, none⟩) := hn.1
      clear hn
      refine wants_plain rfl ?_
      refine grown_run (v := .pointer (some ⟨g1, 0, none⟩)) ?_ (Kp.refl _ _) rfl
      obtain ⟨ρ, hρ, hc, hf, hg⟩ := eval_is a
      rw [hρ] at h1 ⊢
      simp [go_sem, h1]
    refine steps_cons (fun a w hk hn => ?_) ?_
    · have h3 : a.eval (.tmp 3) = .pointer (some ⟨g1, 0, none⟩) := hn.1
      clear hn
      refine wants_plain rfl ?_
      refine grown_run (v := .pointer (some ⟨g1, 0, none⟩)) ?_ (Kp.refl _ _) rfl
      obtain ⟨ρ, hρ, hc, hf, hg⟩ := eval_is a
      rw [hρ] at h3 ⊢
      simp [go_sem, h3]
    refine steps_cons (fun a w hk hn => ?_) ?_
    · have h4 : a.eval (.tmp 4) = .pointer (some ⟨g1, 0, none⟩) := hn.1
      clear hn
      refine wants_plain rfl ?_
      refine grown_run (v := .int .i64 n) ?_ (Kp.refl _ _) rfl
      have hcell : w.cell? ⟨g1, 0, none⟩ = some (.int .i64 n) := by rw [cell_of_row w g1 0 _ _ _ (unhide HS1 w hk)]; rfl
      obtain ⟨ρ, hρ, hc, hf, hg⟩ := eval_is a
      rw [hρ] at h4 ⊢
      simp [go_sem, h4, hcell]
    refine steps_cons (fun a w hk hn => ?_) ?_
    · have h1 : a.eval (.tmp 1) = .pointer (some ⟨g1, 0, none⟩) := hn.1
      clear hn
      refine wants_plain rfl ?_
      refine grown_run (v := .pointer (some ⟨g1, 0, none⟩)) ?_ (Kp.refl _ _) rfl
      obtain ⟨ρ, hρ, hc, hf, hg⟩ := eval_is a
      rw [hρ] at h1 ⊢
      simp [go_sem, h1]
    refine steps_cons (fun a w hk hn => ?_) ?_
    · have h6 : a.eval (.tmp 6) = .pointer (some ⟨g1, 0, none⟩) := hn.1
      clear hn
      refine wants_plain rfl ?_
      refine grown_run (v := .pointer (some ⟨g1, 1, none⟩)) ?_ (Kp.refl _ _) rfl
      obtain ⟨ρ, hρ, hc, hf, hg⟩ := eval_is a
      rw [hρ] at h6 ⊢
      simp [go_sem, h6]
    refine steps_cons (fun a w hk hn => ?_) ?_
    · have h7 : a.eval (.tmp 7) = .pointer (some ⟨g1, 1, none⟩) := hn.1
      clear hn
      refine wants_plain rfl ?_
      refine grown_run (v := .slice ar mr cr) ?_ (Kp.refl _ _) rfl
      have hcell : w.cell? ⟨g1, 1, none⟩ = some (.slice ar mr cr) := by rw [cell_of_row w g1 1 _ _ _ (unhide HS1 w hk)]; rfl
      obtain ⟨ρ, hρ, hc, hf, hg⟩ := eval_is a
      rw [hρ] at h7 ⊢
      simp [go_sem, h7, hcell]
    refine steps_cons (fun a w hk hn => ?_) ?_
    · have h8 : a.eval (.tmp 8) = .slice ar mr cr := hn.1
      clear hn
      refine wants_plain rfl ?_
      refine grown_call (f := 29) rfl Tryz.func29 (by kernel_rfl) (by kernel_rfl) ?_
      simp only [List.map_toArray, List.map_cons, List.map_nil, h8]
      refine (dclone_any _ r w (unhide HSr w hk) (unhide HRL)).mono ?_
      rintro e w' ⟨a', m', c', rfl, R, K⟩
      exact ⟨_, rfl, K, ⟨a', m', c', rfl, R.sl, fun k hk' => Nat.le_trans hk.size (R.own k hk')⟩, R.fz⟩
    refine steps_cons (fun a w hk hn => ?_) ?_
    · have h5 : a.eval (.tmp 5) = .int .i64 n := hn.1
      have h9 : (RF w2.drew.heap.size r) (a.eval (.tmp 9)) w := hn.2.1
      clear hn
      refine wants_plain rfl ?_
      exact grown_bck (.tmp 5) (.tmp 9) rfl h5 h9
    refine steps_cons (fun a w hk hn => ?_) ?_
    · have h1 : a.eval (.tmp 1) = .pointer (some ⟨g1, 0, none⟩) := hn.1
      clear hn
      refine wants_plain rfl ?_
      refine grown_run (v := .pointer (some ⟨g1, 2, none⟩)) ?_ (Kp.refl _ _) rfl
      obtain ⟨ρ, hρ, hc, hf, hg⟩ := eval_is a
      rw [hρ] at h1 ⊢
      simp [go_sem, h1]
    refine steps_cons (fun a w hk hn => ?_) ?_
    · have h11 : a.eval (.tmp 11) = .pointer (some ⟨g1, 2, none⟩) := hn.1
      clear hn
      refine wants_plain rfl ?_
      refine grown_run (v := .pointer (some ⟨g1, 2, none⟩)) ?_ (Kp.refl _ _) rfl
      obtain ⟨ρ, hρ, hc, hf, hg⟩ := eval_is a
      rw [hρ] at h11 ⊢
      simp [go_sem, h11]
    refine steps_cons (fun a w hk hn => ?_) ?_
    · have h12 : a.eval (.tmp 12) = .pointer (some ⟨g1, 2, none⟩) := hn.1
      clear hn
      refine wants_plain rfl ?_
      refine grown_run (v := .int .i64 i) ?_ (Kp.refl _ _) rfl
      have hcell : w.cell? ⟨g1, 2, none⟩ = some (.int .i64 i) := by rw [cell_of_row w g1 2 _ _ _ (unhide HS1 w hk)]; rfl
      obtain ⟨ρ, hρ, hc, hf, hg⟩ := eval_is a
      rw [hρ] at h12 ⊢
      simp [go_sem, h12, hcell]
    refine steps_cons (fun a w hk hn => ?_) ?_
    · have h1 : a.eval (.tmp 1) = .pointer (some ⟨g1, 0, none⟩) := hn.1
      clear hn
      refine wants_plain rfl ?_
      refine grown_run (v := .pointer (some ⟨g1, 2, none⟩)) ?_ (Kp.refl _ _) rfl
      obtain ⟨ρ, hρ, hc, hf, hg⟩ := eval_is a
      rw [hρ] at h1 ⊢
      simp [go_sem, h1]
    refine steps_cons (fun a w hk hn => ?_) ?_
    · have h14 : a.eval (.tmp 14) = .pointer (some ⟨g1, 2, none⟩) := hn.1
      clear hn
      refine wants_plain rfl ?_
      refine grown_run (v := .pointer (some ⟨g1, 3, none⟩)) ?_ (Kp.refl _ _) rfl
      obtain ⟨ρ, hρ, hc, hf, hg⟩ := eval_is a
      rw [hρ] at h14 ⊢
      simp [go_sem, h14]
    refine steps_cons (fun a w hk hn => ?_) ?_
    · have h15 : a.eval (.tmp 15) = .pointer (some ⟨g1, 3, none⟩) := hn.1
      clear hn
      refine wants_plain rfl ?_
      refine grown_run (v := .slice ap np cp) ?_ (Kp.refl _ _) rfl
      have hcell : w.cell? ⟨g1, 3, none⟩ = some (.slice ap np cp) := by rw [cell_of_row w g1 3 _ _ _ (unhide HS1 w hk)]; rfl
      obtain ⟨ρ, hρ, hc, hf, hg⟩ := eval_is a
      rw [hρ] at h15 ⊢
      simp [go_sem, h15, hcell]
    refine steps_cons (fun a w hk hn => ?_) ?_
    · have h16 : a.eval (.tmp 16) = .slice ap np cp := hn.1
      clear hn
      refine wants_plain rfl ?_
      refine grown_call (f := 69) rfl Tryz.func69 (by kernel_rfl) (by kernel_rfl) ?_
      simp only [List.map_toArray, List.map_cons, List.map_nil, h16]
      refine (ueach_any _ lp ps w (unhide HSp w hk) (unhide HPe) (unhide HPn) (unhide HPm)).mono ?_
      rintro e w' ⟨a', m', c', rfl, A⟩
      exact ⟨_, rfl, A.kp, A.lo hk.size (unhide HPn)⟩
    refine steps_cons (fun a w hk hn => ?_) ?_
    · have h1 : a.eval (.tmp 1) = .pointer (some ⟨g1, 0, none⟩) := hn.1
      clear hn
      refine wants_plain rfl ?_
      refine grown_run (v := .pointer (some ⟨g1, 2, none⟩)) ?_ (Kp.refl _ _) rfl
      obtain ⟨ρ, hρ, hc, hf, hg⟩ := eval_is a
      rw [hρ] at h1 ⊢
      simp [go_sem, h1]
    refine steps_cons (fun a w hk hn => ?_) ?_
    · have h18 : a.eval (.tmp 18) = .pointer (some ⟨g1, 2, none⟩) := hn.1
      clear hn
      refine wants_plain rfl ?_
      refine grown_run (v := .pointer (some ⟨g1, 4, none⟩)) ?_ (Kp.refl _ _) rfl
      obtain ⟨ρ, hρ, hc, hf, hg⟩ := eval_is a
      rw [hρ] at h18 ⊢
      simp [go_sem, h18]
    refine steps_cons (fun a w hk hn => ?_) ?_
    · have h19 : a.eval (.tmp 19) = .pointer (some ⟨g1, 4, none⟩) := hn.1
      clear hn
      refine wants_plain rfl ?_
      refine grown_run (v := .slice aq nq cq) ?_ (Kp.refl _ _) rfl
      have hcell : w.cell? ⟨g1, 4, none⟩ = some (.slice aq nq cq) := by rw [cell_of_row w g1 4 _ _ _ (unhide HS1 w hk)]; rfl
      obtain ⟨ρ, hρ, hc, hf, hg⟩ := eval_is a
      rw [hρ] at h19 ⊢
      simp [go_sem, h19, hcell]
    refine steps_cons (fun a w hk hn => ?_) ?_
    · have h20 : a.eval (.tmp 20) = .slice aq nq cq := hn.1
      clear hn
      refine wants_plain rfl ?_
      refine grown_call (f := 69) rfl Tryz.func69 (by kernel_rfl) (by kernel_rfl) ?_
      simp only [List.map_toArray, List.map_cons, List.map_nil, h20]
      refine (ueach_any _ lq qs w (unhide HSq w hk) (unhide HQe) (unhide HQn) (unhide HQm)).mono ?_
      rintro e w' ⟨a', m', c', rfl, A⟩
      exact ⟨_, rfl, A.kp, A.lo hk.size (unhide HQn)⟩
    refine steps_cons (fun a w hk hn => ?_) ?_
    · have h13 : a.eval (.tmp 13) = .int .i64 i := hn.1
      have h17 : (LO w2.drew.heap.size ps) (a.eval (.tmp 17)) w := hn.2.1
      have h21 : (LO w2.drew.heap.size qs) (a.eval (.tmp 21)) w := hn.2.2.1
      clear hn
      refine wants_plain rfl ?_
      exact grown_bsig (.tmp 13) (.tmp 17) (.tmp 21) rfl h13 h17 h21
    refine steps_cons (fun a w hk hn => ?_) ?_
    · have h10 : (CkF w2.drew.heap.size n r) (a.eval (.tmp 10)) w := hn.1
      have h22 : (SigO w2.drew.heap.size i ps qs) (a.eval (.tmp 22)) w := hn.2.1
      clear hn
      refine wants_plain rfl ?_
      exact grown_bsgd (.tmp 10) (.tmp 22) rfl h10 h22
    exact trivial
  intro W1 hkW1
  rintro _ rfl
  rintro _ rfl
  rintro _ rfl
  rintro _ rfl
  rintro _ rfl
  rintro _ rfl
  intro v9 h9
  intro v10 h10
  rintro _ rfl
  rintro _ rfl
  rintro _ rfl
  rintro _ rfl
  rintro _ rfl
  rintro _ rfl
  intro v17 h17
  rintro _ rfl
  rintro _ rfl
  rintro _ rfl
  intro v21 h21
  intro v22 h22
  intro v23 h23
  refine fin_nil ?_
  simp only [Act.put, List.set_cons_zero, List.set_cons_succ, List.setIfInBounds_toArray]
  obtain ⟨vr, vp, vq, rfl, ⟨⟨a7, m7, c7, rfl, S7, O7⟩, Z7⟩, ⟨a8, m8, c8, rfl, L8⟩, ⟨a9, m9, c9, rfl, L9⟩⟩ := h23
  simp only at S7 O7 Z7 L8 L9
  have K67 := unhide HD W1 hkW1
  have G27 := K67.heap (unhide HG2) (by simp)
  have hsz7 : w2.drew.heap.size = w2.heap.size := rfl
  have hlt2 : g2 < w2.heap.size := lt_of_block (unhide HG2)
  clear h9 h10 h17 h21 h22
  go_wp2_with (refine wpList_store_flat rfl 54 (.tmp 2) (.tmp 23) rfl g2 0 rfl _ _ [.int .i64 n, .slice a7 m7 c7, .int .i64 i, .slice a8 m8 c8, .slice a9 m9 c9] G27 rfl (by simp) Tryz.sgdSize (by simp [Value.oneCell']) #[.int .i64 n, .slice a7 m7 c7, .int .i64 i, .slice a8 m8 c8, .slice a9 m9 c9] rfl ?_; intro w8 G8 K8)
  refine bodyPost_ret (results_flat1 rfl _ rfl G8 Tryz.underlying54 rfl Tryz.sgdSize) rfl ?_
  have hs2 := (unhide HK2).size
  have hg2 := unhide H2
  refine ⟨_, rfl, ⟨fun SS w9 hS9 k9 => ?_, fun n' vr' i' p' q' e' => ?_⟩, ((unhide HK2).trans K67).then K8 (fun i hi => .inr (by simp at hi; omega))⟩
  · have hlow : ∀ q ∈ [g2] ++ SS, q < w2.drew.heap.size := fun q hq => by
      rcases List.mem_append.1 hq with hq | hq
      · simp at hq; omega
      · have := hS9 q hq; omega
    have kk : Kp ([g2] ++ SS) W1 w9 := K8.comp k9
    obtain ⟨l8, q8, e8⟩ := L8 _ w9 hlow kk
    obtain ⟨l9, q9, e9⟩ := L9 _ w9 hlow kk
    refine ⟨a7, m7, c7, .slice a8 m8 c8, .slice a9 m9 c9, rfl, ⟨S7.kept kk (fun k hk hm => ?_), unhide HBr⟩, _, _, l8, l9, rfl, q8, e8, q9, e9⟩
    have := O7 k hk
    have := hlow k hm
    omega
  · simp only [Value.agg.injEq, Array.mk.injEq, List.cons.injEq, and_true] at e'
    obtain ⟨_, rfl, _⟩ := e'
    exact ⟨Z7.kept K8 (fun g hg hm => by simp at hm; have := O7 g hg; omega), fun g hg => by have := O7 g hg; have := hs2; omega⟩
end Go.Proofs.YtillhpgdlmeajabGreatDoor

/-
  The contract of package check's Get.
-/
namespace Go.Proofs.YtillhpgdlmeajabGreatDoor
open Go.RowKit
open Go.Proofs
/-- While a signed checkpoint is read: the reader at q, the result's place at g0, made behind it. -/
structure GtS (w : World) (g0 q : Nat) (v0 r : Value) (s : Bool × List Int) (wr : World) : Prop where
  rd : Rd wr q r s.1 s.2
  own : ∀ k, r.ownBlock = some k → v0.ownBlock = some k
  res : wr.heap[g0]? = some (.cells #[.int .i64 0, .slice none 0 0, .int .i64 0, .slice none 0 0, .slice none 0 0] 54 (0, 0))
  kp : Kp [q] w wr
  o1 : w.heap.size = g0
  o2 : q < g0
  o3 : ∀ k, v0.ownBlock = some k → k < g0
section
variable {w w1 w' : World} {g0 q : Nat} {v0 r : Value} {s s' : Bool × List Int}
theorem GtS.call (h : GtS w g0 q v0 r s w1) (L : Left w1 q r s' w') : ∃ r', GtS w g0 q v0 r' s' w' := by
  obtain ⟨⟨r', R, O⟩, K⟩ := L
  have := h.o2
  exact ⟨r', R, fun k hk => h.own k (O k hk), K.heap h.res (by simp; omega), h.kp.trans K, h.o1, h.o2, h.o3⟩
theorem GtS.kept (h : GtS w g0 q v0 r s w1) (K : Kp [] w1 w') : GtS w g0 q v0 r s w' :=
  ⟨h.rd.kept K (by simp) (by simp), h.own, K.heap h.res (by simp), h.kp.trans (K.mono (by simp)), h.o1, h.o2, h.o3⟩
theorem GtS.left (h : GtS w g0 q v0 r s w1) (K : Kp [g0] w1 w') : Left w q v0 s w' := by
  have := h.o2
  have h1 := h.o1
  exact ⟨⟨r, h.rd.kept K (by simp; omega) (fun i hi => by have := h.o3 i (h.own i hi); simp; omega), h.own⟩, h.kp.then K (fun i hi => .inr (by simp at hi; omega))⟩
end
end Go.Proofs.YtillhpgdlmeajabGreatDoor

/-
  Rows of bytes told by their cells alone, so that a mark behind the last cell (a string that was turned into bytes) does not matter: append onto them.
-/
namespace Go.Proofs.YtillhpgdlmeajabGreatDoor
open Go.RowKit
/-- a row of bytes in a block from base on; its cells may be written. -/
def RowM (w : World) (base : Nat) (v : Value) (bs : List Int) : Prop :=
  ∃ g cap, v = .slice (some ⟨g, 0, none⟩) bs.length cap ∧ base ≤ g ∧ g < w.heap.size ∧ bs.length ≤ cap ∧ cap ≤ maxLen ∧ (∀ (j : Nat) u, (bs.map (Value.int .u8))[j]? = some u → w.cell? ⟨g, j, none⟩ = some u) ∧ ∀ j, j < cap → (w.cell? ⟨g, j, none⟩).isSome = true ∧ w.frozen? ⟨g, j, none⟩ = false
theorem RowM.sl {w : World} {base : Nat} {v : Value} {bs : List Int} (h : RowM w base v bs) : Sl w v bs := by
  obtain ⟨g, cap, rfl, _, _, h1, h2, h3, _⟩ := h
  refine ⟨some ⟨g, 0, none⟩, cap, rfl, h1, h2, (fun e => by cases e), fun a ha j u hu => ?_⟩
  cases ha
  rw [Addr.add_lit, Nat.zero_add]
  exact h3 j u hu
theorem RowM.own {w : World} {base : Nat} {v : Value} {bs : List Int} (h : RowM w base v bs) : ∀ k, v.ownBlock = some k → base ≤ k ∧ k < w.heap.size := by
  obtain ⟨g, cap, rfl, h1, h2, _⟩ := h
  intro k hk
  cases hk
  exact ⟨h1, h2⟩
theorem RowM.shape {w : World} {base : Nat} {v : Value} {bs : List Int} (h : RowM w base v bs) : ∃ ao c, v = .slice ao bs.length c := by
  obtain ⟨g, cap, rfl, _⟩ := h
  exact ⟨_, _, rfl⟩
theorem RowM.kept {w w' : World} {base : Nat} {v : Value} {bs : List Int} {S : List Nat} (h : RowM w base v bs) (k : Kp S w w') (hv : ∀ i, v.ownBlock = some i → i ∉ S) : RowM w' base v bs := by
  obtain ⟨g, cap, rfl, h0, hg, h1, h2, h3, h4⟩ := h
  have e := k.block g hg (hv g rfl)
  have ec : ∀ j, w'.cell? ⟨g, j, none⟩ = w.cell? ⟨g, j, none⟩ := fun j => World.cell?_of_block (a := ⟨g, j, none⟩) e
  have ef : ∀ j, w'.frozen? ⟨g, j, none⟩ = w.frozen? ⟨g, j, none⟩ := fun j => World.frozen?_of_block (a := ⟨g, j, none⟩) e
  exact ⟨g, cap, rfl, h0, Nat.lt_of_lt_of_le hg k.size, h1, h2, fun j u hu => by rw [ec]; exact h3 j u hu, fun j hj => by rw [ec, ef]; exact h4 j hj⟩
end Go.Proofs.YtillhpgdlmeajabGreatDoor

/-
  The contracts of the law package's helpers Seed and Hash, as functions.
-/
namespace Go.Proofs.YtillhpgdlmeajabGreatDoor
open Go.RowKit
open Go.Proofs
def seedX (n : Int) : List Int := sha [99, wiP n 0 1000 % 5]
theorem seedX_len (n : Int) : (seedX n).length = 32 := sha_len _
theorem seedX_bs (n : Int) : Bs (seedX n) := sha_bs _
set_option maxRecDepth 100000 in
set_option maxHeartbeats 1000000 in
theorem xseed_any (n : Int) (w : World) :
    Calls Tryz.prog 8 #[.int .i64 n] w fun e w' => ∃ ao m c, e = .returned (.slice ao m c) ∧ Row w' w.heap.size (.slice ao m c) (seedX n) ∧ Kp [] w w' := by
  have HW := hide (within_wi n 0 1000 w (by omega) (by omega) (by omega))
  obtain ⟨x, hx⟩ : ∃ x, x = wiP n 0 1000 := ⟨_, rfl⟩
  obtain ⟨hxb, hxc⟩ := wiP_ge n 0 1000 (by omega)
  rw [← hx] at HW hxb hxc
  have HX := hide hx
  clear hx
  go_enter Tryz.func8, Tryz.ntmps8
  go_wp2_with fail
  refine (unhide HW).mono ?_
  rintro ee w1 ⟨rfl, hw⟩
  subst w1
  clear HW
  go_wp2_with fail
  obtain ⟨ob, hob⟩ : ∃ o : Obj, o = (.cells #[.int .u8 (x % 5)] 5) := ⟨_, rfl⟩
  have hP : Sl (w.alloc ob) (.slice (some ⟨w.heap.size, 0, none⟩) 1 1) [x % 5] := by
    rw [hob]; exact Sl.block (cs := [x % 5]) (t := 5) (fr := (0, 0)) (heap_alloc_new w _) (by simp [maxLen])
  have hPB : Bs [x % 5] := by
    intro b hb
    obtain rfl : b = x % 5 := by simpa using hb
    omega
  have Ka := (Kp.refl [] w).alloc ob
  have HL := lists1 hP hPB
  rw [show (w.alloc ob).heap.size = w.heap.size + 1 by simp] at HL
  have HK := hide (Ka.alloc (.cells #[.slice (some ⟨w.heap.size, 0, none⟩) 1 1] 29))
  rw [← hob]
  refine (reftagged_any 99 _ _ _ rfl _ HL (by omega) (by omega) (by simp) (by simp)).mono ?_
  rintro ee w2 ⟨ao2, m2, c2, rfl, R2, K2⟩
  have hr : sha (99 :: cat [(Value.slice (some ⟨w.heap.size, 0, none⟩) 1 1, [x % 5])]) = seedX n := by unfold seedX; rw [← unhide HX]; rfl
  rw [hr] at R2
  have HR2 := hide (row_new R2 (unhide HK))
  have HK2 := hide ((unhide HK).trans K2)
  clear HL HK hob R2 K2 Ka hP hPB hr
  go_wp2_with fail
  go_ret
  exact ⟨ao2, m2, c2, rfl, unhide HR2, unhide HK2⟩
end Go.Proofs.YtillhpgdlmeajabGreatDoor

/-
  The contract of the law package's signed: a checkpoint that is signed, as it is drawn.
-/
namespace Go.Proofs.YtillhpgdlmeajabGreatDoor
open Go.RowKit
open Go.Proofs
theorem noBy_sgd {w : World} {g : Nat} {n i : Int} {a1 a2 a3 : Option Addr} {n1 c1 n2 c2 n3 c3 : Nat} {t : TypeId} {fr : Nat × Nat} (hg : w.heap[g]? = some (.cells #[.int .i64 n, .slice a1 n1 c1, .int .i64 i, .slice a2 n2 c2, .slice a3 n3 c3] t fr)) : NoBy w [g] := by
  intro x hx
  obtain rfl : x = g := by simpa using hx
  refine ⟨_, _, _, hg, fun x hx y => ?_⟩
  rcases (by simpa using hx : x = .int .i64 n ∨ x = .slice a1 n1 c1 ∨ x = .int .i64 i ∨ x = .slice a2 n2 c2 ∨ x = .slice a3 n3 c3) with rfl | rfl | rfl | rfl | rfl <;> simp
end Go.Proofs.YtillhpgdlmeajabGreatDoor

/-
  The contract of the reference's Get of a signed checkpoint.
-/
namespace Go.Proofs.YtillhpgdlmeajabGreatDoor
open Go.RowKit
open Go.Proofs
section
variable {w w' : World} {g : Nat} {x y : Int} {a1 a2 a3 : Option Addr} {n1 c1 n2 c2 n3 c3 : Nat} {t : TypeId} {fr : Nat × Nat}
/-- a list of three slices or more does not lie in a signed checkpoint's block. -/
theorem lists_off5 (hg : w.heap[g]? = some (.cells #[.int .i64 x, .slice a1 n1 c1, .int .i64 y, .slice a2 n2 c2, .slice a3 n3 c3] t fr)) (k : Kp [g] w w') {v : Value} {l : List (Value × List Int)} (h : Lists w v l) (hl : 3 ≤ l.length) : Lists w' v l := by
  obtain ⟨ao, c, rfl, h1, h2⟩ := h
  refine ⟨ao, c, rfl, h1, fun i hi => ?_⟩
  obtain ⟨b, off, e, h3, h4, h5⟩ := h2 i hi
  refine ⟨b, off, e, ?_, ?_, h5⟩
  · by_cases hb : b = g
    · exfalso
      subst hb
      subst e
      have at' : ∀ j (hj : j < l.length), ∃ p q r, (#[Value.int .i64 x, .slice a1 n1 c1, .int .i64 y, .slice a2 n2 c2, .slice a3 n3 c3])[off + j]? = some (.slice p q r) := fun j hj => by
        obtain ⟨b', off', e', h3', h4', _⟩ := h2 j hj
        injection e' with e'
        injection e' with e1 e2
        subst e1
        subst e2
        obtain ⟨p, r, es, _⟩ := h4'
        rw [cell_of_row w b (off + j) _ _ _ hg, es] at h3'
        exact ⟨p, _, r, h3'⟩
      obtain ⟨p0, q0, r0, e0⟩ := at' 0 (by omega)
      obtain ⟨p1, q1, r1, e1⟩ := at' 1 (by omega)
      obtain ⟨p2, q2, r2, e2⟩ := at' 2 (by omega)
      have : off = 0 ∨ off = 1 ∨ off = 2 ∨ 3 ≤ off := by omega
      rcases this with rfl | rfl | rfl | h
      · simp at e0
      · simp at e1
      · simp at e0
      · rw [Array.getElem?_eq_none (by simp; omega)] at e2
        cases e2
    · exact k.cell h3 (by simpa using hb)
  · obtain ⟨p, q, es, _⟩ := id h4
    rw [es] at h4 ⊢
    exact Sl.offBy h4 (noBy_sgd hg) k
theorem sig_off5 (hg : w.heap[g]? = some (.cells #[.int .i64 x, .slice a1 n1 c1, .int .i64 y, .slice a2 n2 c2, .slice a3 n3 c3] t fr)) (k : Kp [g] w w') {v : Value} {i : Int} {ps qs : List (List Int)} (h : SigV w v i ps qs) (hp : 3 ≤ ps.length) (hq : 3 ≤ qs.length) : SigV w' v i ps qs := by
  obtain ⟨vp, vq, lp, lq, e, h1, h2, h3, h4⟩ := h
  exact ⟨vp, vq, lp, lq, e, lists_off5 hg k h1 (by rw [← List.length_map (f := (·.2)), h2]; exact hp), h2, lists_off5 hg k h3 (by rw [← List.length_map (f := (·.2)), h4]; exact hq), h4⟩
end
section
variable {w w1 w' : World} {g0 q : Nat} {v : Value} {B : List Int} {s s' : Bool × List Int}
end
end Go.Proofs.YtillhpgdlmeajabGreatDoor

/-
  The contracts of package check's Encode and Decode.
-/
namespace Go.Proofs.YtillhpgdlmeajabGreatDoor
open Go.RowKit
open Go.Proofs
theorem sg_off5 {w w' : World} {g : Nat} {x y : Int} {a1 a2 a3 : Option Addr} {n1 c1 n2 c2 n3 c3 : Nat} {t : TypeId} {fr : Nat × Nat} (hg : w.heap[g]? = some (.cells #[.int .i64 x, .slice a1 n1 c1, .int .i64 y, .slice a2 n2 c2, .slice a3 n3 c3] t fr)) (k : Kp [g] w w') {v : Value} {s : Sg} (h : SgV w v s) (hp : 3 ≤ s.ps.length) (hq : 3 ≤ s.qs.length) : SgV w' v s := by
  obtain ⟨a, m, c, vp, vq, e, h1, h2⟩ := h
  exact ⟨a, m, c, vp, vq, e, ⟨Sl.offBy h1.1 (noBy_sgd hg) k, h1.2⟩, sig_off5 hg k h2 hp hq⟩
end Go.Proofs.YtillhpgdlmeajabGreatDoor

/-
  Regions that draw their order, whose first operations keep an invariant over frame and world and come ahead of the rest: of each a predicate tells what it yields, and stays true along a relation; one look at each serves every order.
-/
namespace Go.Proofs.YtillhpgdlmeajabGreatDoor
open Go.RowKit
def Tell.stableG (K : World → World → Prop) (R : Tell) : Prop := ∀ v w w', K w w' → R v w → R v w'
def grownG (K : World → World → Prop) (G : Act → World → Prop) (P : Program) (a : Act) (d : Option Tmp) (w : World) (R : Tell) : Result Next → Prop
  | .ok (.value v) w' => (K w w' ∧ G (a.put d v) w') ∧ R v w'
  | .ok .skip w' => (K w w' ∧ G (a.put d undef) w') ∧ R undef w'
  | .ok (.enter f args) w' => Calls P f args w' fun e w'' => ∃ v, e = .returned v ∧ (K w w'' ∧ G (a.put d v) w'') ∧ R v w''
  | _ => False
/-- What one operation must do. -/
def wantsG (K : World → World → Prop) (G : Act → World → Prop) (P : Program) (ops : Array Oper) (o : Oper) (a : Act) (w : World) (R : Tell) : Prop :=
  if Region.wanted o (yielded ops a.tmps) then grownG K G P a o.dst w R ((execOp a.eval o).run P w) else (K w w ∧ G (a.put o.dst undef) w) ∧ R undef w
def StepsG (K : World → World → Prop) (G : Act → World → Prop) (P : Program) (ops : Array Oper) (a0 : Act) (Rs : List Tell) : List Oper → List (List (Tmp × Option Nat)) → List Tell → Prop
  | o :: l, ks :: kss, R :: rs => (∀ a w, G a w → Knows a0 Rs a w ks → wantsG K G P ops o a w R) ∧ StepsG K G P ops a0 Rs l kss rs
  | [], [], [] => True
  | _, _, _ => False
theorem StepsG.at {K : World → World → Prop} {G : Act → World → Prop} {P : Program} {a0 : Act} {Rs : List Tell} (ops : Array Oper) : ∀ {l : List Oper} {kss : List (List (Tmp × Option Nat))} {rs : List Tell}, StepsG K G P ops a0 Rs l kss rs → l.length = rs.length ∧ l.length = kss.length ∧ ∀ (i : Nat) o ks R, l[i]? = some o → kss[i]? = some ks → rs[i]? = some R → ∀ a w, G a w → Knows a0 Rs a w ks → wantsG K G P ops o a w R
  | [], [], [], _ => ⟨rfl, rfl, fun i o ks R h => by simp at h⟩
  | o :: l, ks :: kss, R :: rs, h => by
    obtain ⟨h1, h2, h3⟩ := StepsG.at ops h.2
    refine ⟨by simp [h1], by simp [h2], fun i o' ks' R' ho hk hR => ?_⟩
    cases i with
    | zero =>
      simp at ho hk hR
      subst ho; subst hk; subst hR
      exact h.1
    | succ i => exact h3 i o' ks' R' (by simpa using ho) (by simpa using hk) (by simpa using hR)
  | [], [], _ :: _, h => h.elim
  | [], _ :: _, [], h => h.elim
  | [], _ :: _, _ :: _, h => h.elim
  | _ :: _, [], [], h => h.elim
  | _ :: _, [], _ :: _, h => h.elim
  | _ :: _, _ :: _, [], h => h.elim
section
variable {K : World → World → Prop} {G : Act → World → Prop} {P : Program} {m : List Oper} {ops : Array Oper} {Q : Exit → Act → World → Prop} {a0 : Act} {Rs : List Tell} {kss : List (List (Tmp × Option Nat))} {n i : Nat} {listed : Array Bool} {a : Act} {w w' : World} {o : Oper} {R : Tell} {v : Value}
/-- The head m of the operations ops: what is listed of it so far. -/
structure InvG (G : Act → World → Prop) (m : List Oper) (ops : Array Oper) (Rs : List Tell) (a0 : Act) (listed : Array Bool) (a : Act) (w : World) : Prop where
  g : G a w
  size : a.tmps.size = a0.tmps.size
  defers : a.defers = a0.defers
  told : ∀ i d R, listed.getD i false = true → dstAt m i = some d → Rs[i]? = some R → R (a.eval (.tmp d)) w
  rest : ∀ t, (∀ i, listed.getD i false = true → dstAt m i ≠ some t) → a.eval (.tmp t) = a0.eval (.tmp t)
  head : HeadInv .any ops m.length listed
theorem InvG.closed (hsub : ∀ (i : Nat) o, m[i]? = some o → ops[i]? = some o) (hinv : InvG G m ops Rs a0 listed a w) : ∀ (i : Nat) o, m[i]? = some o → listed.getD i false = true → ∀ j ∈ odeps o, listed.getD j false = true := by
  intro i o ho hl j hj
  obtain ⟨e, he, hb, rfl⟩ := mem_deps.1 hj
  exact hinv.head.closed i o (hsub i o ho) hl e he hb
end
end Go.Proofs.YtillhpgdlmeajabGreatDoor

/-
  Regions that draw their order, stores among them: an invariant over what was done, frame and world; of each operation that yields something a predicate tells what, and stays true along a relation; one look at each operation serves every order.
-/
namespace Go.Proofs.YtillhpgdlmeajabGreatDoor
open Go.RowKit
/-- what was done is closed under what must come ahead. -/
def ClosedL (l : List Oper) (listed : Array Bool) : Prop := ∀ (i : Nat) o, l[i]? = some o → listed.getD i false = true → ∀ j ∈ odeps o, listed.getD j false = true
def StepsL (K : World → World → Prop) (G : Array Bool → Act → World → Prop) (P : Program) (l0 : List Oper) (a0 : Act) (Rs : List Tell) : Nat → List Oper → List (List (Tmp × Option Nat)) → List Tell → Prop
  | k, o :: l, ks :: kss, R :: rs => (∀ listed a w, listed.getD k false = false → (∀ j ∈ odeps o, listed.getD j false = true) → ClosedL l0 listed → k < listed.size → G listed a w → Knows a0 Rs a w ks → wantsG K (G (listed.setIfInBounds k true)) P l0.toArray o a w R) ∧ StepsL K G P l0 a0 Rs (k + 1) l kss rs
  | _, [], [], [] => True
  | _, _, _, _ => False
theorem StepsL.at {K : World → World → Prop} {G : Array Bool → Act → World → Prop} {P : Program} {l0 : List Oper} {a0 : Act} {Rs : List Tell} : ∀ {l : List Oper} {kss : List (List (Tmp × Option Nat))} {rs : List Tell} {k : Nat}, StepsL K G P l0 a0 Rs k l kss rs → l.length = rs.length ∧ l.length = kss.length ∧ ∀ (i : Nat) o ks R, l[i]? = some o → kss[i]? = some ks → rs[i]? = some R → ∀ listed a w, listed.getD (k + i) false = false → (∀ j ∈ odeps o, listed.getD j false = true) → ClosedL l0 listed → k + i < listed.size → G listed a w → Knows a0 Rs a w ks → wantsG K (G (listed.setIfInBounds (k + i) true)) P l0.toArray o a w R
  | [], [], [], _, _ => ⟨rfl, rfl, fun i o ks R h => by simp at h⟩
  | o :: l, ks :: kss, R :: rs, k, h => by
    obtain ⟨h1, h2, h3⟩ := StepsL.at h.2
    refine ⟨by simp [h1], by simp [h2], fun i o' ks' R' ho hk hR => ?_⟩
    cases i with
    | zero =>
      simp at ho hk hR
      subst ho; subst hk; subst hR
      exact h.1
    | succ i =>
      have := h3 i o' ks' R' (by simpa using ho) (by simpa using hk) (by simpa using hR)
      rw [show k + (i + 1) = k + 1 + i by omega]
      exact this
  | [], [], _ :: _, _, h => h.elim
  | [], _ :: _, [], _, h => h.elim
  | [], _ :: _, _ :: _, _, h => h.elim
  | _ :: _, [], [], _, h => h.elim
  | _ :: _, [], _ :: _, _, h => h.elim
  | _ :: _, _ :: _, [], _, h => h.elim
def regionOkN (l : List Oper) (kss : List (List (Tmp × Option Nat))) (n : Nat) : Bool :=
  (List.range l.length).all fun i =>
    match l[i]?, kss[i]? with
    | some o, some ks => (odeps o).all (· < i) && ks.all (lookOk l i o) && (match o.dst with | some d => decide (d < n) && (List.range i).all (fun k => dstAt l k != some d) | none => true)
    | _, _ => false
section
variable {K : World → World → Prop} {G : Array Bool → Act → World → Prop} {P : Program} {l : List Oper} {Q : Exit → Act → World → Prop} {a0 : Act} {Rs : List Tell} {kss : List (List (Tmp × Option Nat))} {n i : Nat} {listed : Array Bool} {a : Act} {w w' : World} {o : Oper} {R : Tell} {v : Value}
theorem regionOkN_at (h : regionOkN l kss n = true) {i : Nat} {o : Oper} (ho : l[i]? = some o) : ∃ ks, kss[i]? = some ks ∧ (∀ j ∈ odeps o, j < i) ∧ (∀ k ∈ ks, lookOk l i o k = true) ∧ ∀ d, o.dst = some d → d < n ∧ ∀ k, k < i → dstAt l k ≠ some d := by
  have hi : i < l.length := (List.getElem?_eq_some_iff.1 ho).1
  have h1 := List.all_eq_true.1 h i (List.mem_range.2 hi)
  simp only [ho] at h1
  cases hk : kss[i]? with
  | none => simp [hk] at h1
  | some ks =>
    simp only [hk, Bool.and_eq_true, List.all_eq_true, decide_eq_true_eq] at h1
    obtain ⟨⟨h2, h3⟩, h4⟩ := h1
    refine ⟨ks, rfl, h2, h3, fun d hd => ?_⟩
    simp only [hd, Bool.and_eq_true, List.all_eq_true, decide_eq_true_eq, List.mem_range, bne_iff_ne, ne_eq] at h4
    exact h4
theorem dst_injN (h : regionOkN l kss n = true) {i j : Nat} {d : Tmp} (hi : dstAt l i = some d) (hj : dstAt l j = some d) : i = j := by
  have key : ∀ i j, i < j → dstAt l i = some d → dstAt l j = some d → False := by
    intro i j hij hi hj
    unfold dstAt at hj
    cases ho : l[j]? with
    | none => simp [ho] at hj
    | some o =>
      simp only [ho, Option.bind_some] at hj
      obtain ⟨ks, _, _, _, h6⟩ := regionOkN_at h ho
      exact (h6 d hj).2 i hij hi
  rcases Nat.lt_trichotomy i j with h1 | h1 | h1
  · exact (key i j h1 hi hj).elim
  · exact h1
  · exact (key j i h1 hj hi).elim
structure InvL (G : Array Bool → Act → World → Prop) (l : List Oper) (Rs : List Tell) (a0 : Act) (listed : Array Bool) (a : Act) (w : World) : Prop where
  g : G listed a w
  size : a.tmps.size = a0.tmps.size
  defers : a.defers = a0.defers
  ls : listed.size = l.length
  told : ∀ i d R, listed.getD i false = true → dstAt l i = some d → Rs[i]? = some R → R (a.eval (.tmp d)) w
  rest : ∀ t, (∀ i, listed.getD i false = true → dstAt l i ≠ some t) → a.eval (.tmp t) = a0.eval (.tmp t)
  closed : ClosedL l listed
theorem knows_ofL (hinv : InvL G l Rs a0 listed a w) (hnot : listed.getD i false = false) (hdeps : ∀ j ∈ odeps o, listed.getD j false = true) (hlen : l.length = Rs.length) : ∀ ks : List (Tmp × Option Nat), (∀ k ∈ ks, lookOk l i o k = true) → Knows a0 Rs a w ks
  | [], _ => trivial
  | (t, some j) :: ks, h => by
    refine ⟨?_, knows_ofL hinv hnot hdeps hlen ks (fun k hk => h k (by simp [hk]))⟩
    have h1 := h (t, some j) (by simp)
    simp only [lookOk, Bool.and_eq_true, List.contains_iff_mem, beq_iff_eq] at h1
    obtain ⟨hd, hdst⟩ := h1
    have hl := hdeps j hd
    have hlt : j < Rs.length := by
      unfold dstAt at hdst
      cases hx : l[j]? with
      | none => simp [hx] at hdst
      | some _ => rw [← hlen]; exact (List.getElem?_eq_some_iff.1 hx).1
    rw [List.getD_eq_getElem?_getD, List.getElem?_eq_getElem hlt, Option.getD_some]
    exact hinv.told j t _ hl hdst (List.getElem?_eq_getElem hlt)
  | (t, none) :: ks, h => by
    refine ⟨?_, knows_ofL hinv hnot hdeps hlen ks (fun k hk => h k (by simp [hk]))⟩
    have h1 := h (t, none) (by simp)
    simp only [lookOk, List.all_eq_true, List.mem_range, Bool.or_eq_true, beq_iff_eq, bne_iff_ne, ne_eq] at h1
    refine hinv.rest t (fun k hk hkd => ?_)
    have hlt : k < l.length := by
      unfold dstAt at hkd
      cases hx : l[k]? with
      | none => simp [hx] at hkd
      | some _ => exact (List.getElem?_eq_some_iff.1 hx).1
    rcases h1 k hlt with (h2 | h2) | h2
    · subst h2; rw [hk] at hnot; cases hnot
    · exact h2 hkd
    · rw [List.getElem?_eq_getElem hlt] at h2
      simp only [Option.map_some, Option.getD_some, List.contains_iff_mem] at h2
      have := hinv.closed k _ (List.getElem?_eq_getElem hlt) hk i h2
      rw [this] at hnot; cases hnot
theorem put_none (a : Act) (v : Value) : a.put none v = a := rfl
theorem fin_ofL (hok : regionOkN l kss a0.tmps.size = true) (hN : ∀ k R, Rs[k]? = some R → dstAt l k = none → ∀ w, R undef w) (hlen : l.length = Rs.length) (hinv : InvL G l Rs a0 listed a w) (hall : ∀ i, i < l.length → listed.getD i false = true) :
    ∀ (m : List Oper) (rs : List Tell) (k : Nat) (b : Act), (∀ j, m[j]? = l[k + j]?) → (∀ j, rs[j]? = Rs[k + j]?) → b.tmps.size = a0.tmps.size → b.defers = a0.defers →
    (∀ t, (∀ j d, dstAt l (k + j) = some d → d ≠ t) → b.eval (.tmp t) = a.eval (.tmp t)) → FinR Q m rs b w → Q .normal a w
  | [], rs, k, b, hm, hrs, hbs, hbd, heq, h => by
    have hb : b = a := by
      cases b with
      | mk bt bd =>
        cases a with
        | mk at_ ad =>
          have e1 : bt.size = at_.size := hbs.trans hinv.size.symm
          have e2 : bd = ad := hbd.trans hinv.defers.symm
          subst e2
          congr 1
          refine Array.ext e1 (fun i h1 h2 => ?_)
          have := heq i (fun j d hd => by
            unfold dstAt at hd
            rw [← hm j] at hd
            simp at hd)
          simpa [Act.eval, h1, h2] using this
    subst hb
    cases rs <;> exact h
  | o :: m, [], k, b, hm, hrs, _, _, _, _ => by
    have h1 := hm 0
    have h2 := hrs 0
    simp only [List.getElem?_cons_zero, Nat.add_zero, List.getElem?_nil] at h1 h2
    have h3 : k < l.length := (List.getElem?_eq_some_iff.1 h1.symm).1
    have h4 := List.getElem?_eq_none_iff.1 h2.symm
    omega
  | o :: m, R :: rs, k, b, hm, hrs, hbs, hbd, heq, h => by
    have h1 : l[k]? = some o := by simpa using (hm 0).symm
    have h2 : Rs[k]? = some R := by simpa using (hrs 0).symm
    have h3 : k < l.length := (List.getElem?_eq_some_iff.1 h1).1
    obtain ⟨ks, _, _, _, hdd⟩ := regionOkN_at hok h1
    have s1 : ∀ j, m[j]? = l[k + 1 + j]? := fun j => by have := hm (j + 1); simpa [Nat.add_assoc, Nat.add_comm 1 j] using this
    have s2 : ∀ j, rs[j]? = Rs[k + 1 + j]? := fun j => by have := hrs (j + 1); simpa [Nat.add_assoc, Nat.add_comm 1 j] using this
    cases hd : o.dst with
    | none =>
      have hdk : dstAt l k = none := by unfold dstAt; simp [h1, hd]
      have h' := h undef (hN k R h2 hdk w)
      rw [hd, put_none] at h'
      refine fin_ofL hok hN hlen hinv hall m rs (k + 1) b s1 s2 hbs hbd (fun t ht => heq t (fun j d hj => ?_)) h'
      cases j with
      | zero => rw [Nat.add_zero, hdk] at hj; cases hj
      | succ j => exact ht j d (by rw [← hj]; congr 1; omega)
    | some d =>
      have hdn := (hdd d hd).1
      have hdk : dstAt l k = some d := by unfold dstAt; simp [h1, hd]
      have hR := hinv.told k d R (hall k h3) hdk h2
      refine fin_ofL hok hN hlen hinv hall m rs (k + 1) (b.put o.dst (a.eval (.tmp d))) s1 s2 ?_ ?_ ?_ (h _ hR)
      · rw [hd]; simpa [Act.put] using hbs
      · rw [hd]; simpa [Act.put] using hbd
      · intro t ht
        rw [hd]
        by_cases htd : d = t
        · subst htd
          exact eval_put_same (by rw [hbs]; exact hdn)
        · rw [eval_put_ne htd]
          refine heq t (fun j d' hj => ?_)
          cases j with
          | zero => rw [Nat.add_zero, hdk] at hj; cases hj; exact htd
          | succ j => exact ht j d' (by rw [← hj]; congr 1; omega)
theorem inv_stepL (hok : regionOkN l kss a0.tmps.size = true) (hst : ∀ R ∈ Rs, Tell.stableG K R) (hinv : InvL G l Rs a0 listed a w) (hdeps : ∀ j ∈ odeps o, listed.getD j false = true) (ho : l[i]? = some o) (hR : Rs[i]? = some R)
    (hk : K w w' ∧ G (listed.setIfInBounds i true) (a.put o.dst v) w') (hv : R v w') : InvL G l Rs a0 (listed.setIfInBounds i true) (a.put o.dst v) w' := by
  obtain ⟨ks, _, _, _, hdd⟩ := regionOkN_at hok ho
  have hget : ∀ j, (listed.setIfInBounds i true).getD j false = true → j = i ∨ listed.getD j false = true := fun j hj => by
    by_cases hij : i = j
    · exact .inl hij.symm
    · rw [getD_set_ne false hij] at hj; exact .inr hj
  have hcl : ClosedL l (listed.setIfInBounds i true) := by
    intro j oj hoj hj k hk'
    rcases hget j hj with h1 | h1
    · subst h1
      rw [ho] at hoj; cases hoj
      exact getD_set_true (hdeps k hk')
    · exact getD_set_true (hinv.closed j oj hoj h1 k hk')
  have hlt : i < listed.size := by rw [hinv.ls]; exact (List.getElem?_eq_some_iff.1 ho).1
  cases hd : o.dst with
  | none =>
    have hdi : dstAt l i = none := by unfold dstAt; simp [ho, hd]
    have hg := hk.2
    rw [hd, put_none] at hg
    rw [put_none]
    refine ⟨hg, hinv.size, hinv.defers, by simpa using hinv.ls, ?_, ?_, hcl⟩
    · intro j dj Rj hj hdj hRj
      rcases hget j hj with h1 | h1
      · subst h1; rw [hdi] at hdj; cases hdj
      · exact hst Rj (List.mem_of_getElem? hRj) _ _ _ hk.1 (hinv.told j dj Rj h1 hdj hRj)
    · intro t ht
      exact hinv.rest t (fun j hj => ht j (getD_set_true hj))
  | some d =>
    have hdn := (hdd d hd).1
    have hdi : dstAt l i = some d := by unfold dstAt; simp [ho, hd]
    have hg := hk.2
    rw [hd] at hg
    refine ⟨hg, by simpa [Act.put] using hinv.size, by simpa [Act.put] using hinv.defers, by simpa using hinv.ls, ?_, ?_, hcl⟩
    · intro j dj Rj hj hdj hRj
      by_cases hji : j = i
      · subst hji
        rw [hdi] at hdj; cases hdj
        rw [hR] at hRj; cases hRj
        rw [eval_put_same (by rw [hinv.size]; exact hdn)]
        exact hv
      · have hl := (hget j hj).resolve_left hji
        have hne : d ≠ dj := fun e => hji (dst_injN hok (e ▸ hdj) hdi)
        rw [eval_put_ne hne]
        exact hst Rj (List.mem_of_getElem? hRj) _ _ _ hk.1 (hinv.told j dj Rj hl hdj hRj)
    · intro t ht
      have hne : d ≠ t := fun e => ht i (by simp [hlt]) (e ▸ hdi)
      rw [eval_put_ne hne]
      exact hinv.rest t (fun j hj => ht j (getD_set_true hj))
theorem ready_facts (hr : i ∈ Region.ready .any l.toArray listed) (ho : l[i]? = some o) : listed.getD i false = false ∧ ∀ j ∈ odeps o, listed.getD j false = true := by
  obtain ⟨h0, o', ho', hall⟩ := mem_ready.1 hr
  have : o' = o := by have := ho'; rw [List.getElem?_toArray, ho] at this; exact (Option.some.inj this).symm
  subst this
  refine ⟨getD_both h0, fun j hj => ?_⟩
  obtain ⟨e, he, hb, rfl⟩ := mem_deps.1 hj
  exact hall e he hb
theorem all_listedL (hok : regionOkN l kss n = true) (hinv : InvL G l Rs a0 listed a w) (hr : Region.ready .any l.toArray listed = []) : ∀ i, i < l.length → listed.getD i false = true := by
  intro i
  induction i using Nat.strongRecOn with
  | _ i ih =>
    intro hi
    cases hc : listed.getD i false with
    | true => rfl
    | false =>
      have ho : l[i]? = some l[i] := List.getElem?_eq_getElem hi
      obtain ⟨_, _, hdeps, _, _⟩ := regionOkN_at hok ho
      have : i ∈ Region.ready .any l.toArray listed := by
        rw [mem_ready]
        refine ⟨?_, l[i], by rw [List.getElem?_toArray]; exact ho, fun e he hb => ?_⟩
        · have hls : i < listed.size := by rw [hinv.ls]; exact hi
          simp [hls] at hc ⊢; exact hc
        · have hm : e.on ∈ odeps l[i] := mem_deps.2 ⟨e, he, hb, rfl⟩
          exact ih e.on (hdeps _ hm) (Nat.lt_trans (hdeps _ hm) hi)
      rw [hr] at this
      cases this
/-- **One look at each operation serves every order.** -/
theorem region_growL {id : Nat} {w : World} (hm : P.follows .mixedOrders = true) (Rs : List Tell) (kss : List (List (Tmp × Option Nat))) (hok : regionOkN l kss a0.tmps.size = true) (hN : ∀ k R, Rs[k]? = some R → dstAt l k = none → ∀ w, R undef w) (hst : ∀ R ∈ Rs, Tell.stableG K R) (hg : G (Array.replicate l.length false) a0 w.drew)
    (hs : StepsL K G P l a0 Rs 0 l kss Rs) (hf : ∀ w', FinR (fun _ a w => (∀ listed, (∀ i, i < l.length → listed.getD i false = true) → G listed a w → Q .normal a w)) l Rs a0 w') : (Code.region id l.toArray true).wp P Q a0 w := by
  refine wp_region_any hm ?_
  obtain ⟨hlen, _, hat⟩ := StepsL.at hs
  have hend : ∀ (listed : Array Bool) (a : Act) (w : World), InvL G l Rs a0 listed a w → Region.ready .any l.toArray listed = [] → Q .normal a w := fun listed a w hinv hr =>
    fin_ofL (Q := fun _ a w => (∀ listed, (∀ i, i < l.length → listed.getD i false = true) → G listed a w → Q .normal a w)) hok hN hlen hinv (all_listedL hok hinv hr) l Rs 0 a0 (by simp) (by simp) rfl rfl (fun t ht => (hinv.rest t (fun i _ hd => ht i t (by rw [Nat.zero_add]; exact hd) rfl)).symm) (hf w) listed (all_listedL hok hinv hr) hinv.g
  have main : ∀ (fuel : Nat) (listed : Array Bool) (a : Act) (w : World), InvL G l Rs a0 listed a w → listed.toList.count false = fuel → wpAny P .any l.toArray Q fuel listed a w := by
    intro fuel
    induction fuel with
    | zero =>
      intro listed a w hinv hc
      have hr : Region.ready .any l.toArray listed = [] := by
        refine List.eq_nil_iff_forall_not_mem.2 (fun j hj => ?_)
        have h0 := (mem_ready.1 hj).1
        have h1 := List.count_eq_zero.1 hc
        rcases Nat.lt_or_ge j listed.size with h' | h'
        · simp [h'] at h0
          exact h1 (by rw [← h0]; simp)
        · simp [Array.getElem?_eq_none h'] at h0
      exact ⟨hr, hend listed a w hinv hr⟩
    | succ fuel ih =>
      intro listed a w hinv hc
      refine ⟨hend listed a w hinv, fun i hi => ?_⟩
      obtain ⟨hun, o, ho', hall⟩ := mem_ready.1 hi
      have ho : l[i]? = some o := by rw [← List.getElem?_toArray]; exact ho'
      have hilt : i < l.length := (List.getElem?_eq_some_iff.1 ho).1
      obtain ⟨ks, hks, _, hlk, _⟩ := regionOkN_at hok ho
      obtain ⟨hnot, hdeps⟩ := ready_facts hi ho
      have hls : i < listed.size := by rw [hinv.ls]; exact hilt
      have hR : Rs[i]? = some Rs[i] := List.getElem?_eq_getElem (by omega)
      have hw := hat i o ks Rs[i] ho hks hR listed a w (by rw [Nat.zero_add]; exact hnot) hdeps hinv.closed (by rw [Nat.zero_add]; exact hls) hinv.g (knows_ofL hinv hnot hdeps hlen ks hlk)
      rw [Nat.zero_add] at hw
      have hcnt : (listed.setIfInBounds i true).toList.count false = fuel := by
        have hg : listed.toList[i]'(by simpa using hls) = false := by simpa [hls] using hun
        rw [Array.toList_setIfInBounds, List.count_set (by simpa using hls), hg, hc]
        simp
      have next : ∀ v w', (K w w' ∧ G (listed.setIfInBounds i true) (a.put o.dst v) w') → Rs[i] v w' → wpAny P .any l.toArray Q fuel (listed.setIfInBounds i true) (a.put o.dst v) w' := fun v w' hk hv =>
        ih _ _ _ (inv_stepL hok hst hinv hdeps ho hR hk hv) hcnt
      unfold wantsG at hw
      unfold wpOp
      simp only [ho']
      split
      · rename_i hwn
        rw [if_pos hwn] at hw
        refine .inl ?_
        unfold Oper.wp
        generalize (execOp a.eval o).run P w = r at *
        cases r with
        | ok x w' =>
          cases x <;> simp only [grownG] at hw <;> simp only [Oper.upon]
          case value v => exact next v w' hw.1 hw.2
          case skip => exact next undef w' hw.1 hw.2
          case enter f args =>
            refine hw.mono ?_
            rintro e w'' ⟨v, rfl, h1, h2⟩
            exact next v w'' h1 h2
        | halt x w' => simp only [grownG] at hw
      · rename_i hwn
        rw [if_neg hwn] at hw
        exact next undef w hw.1 hw.2
  refine main _ _ _ _ ⟨by simpa using hg, rfl, rfl, by simp, fun i d R h => ?_, fun _ _ => rfl, fun i o _ h => ?_⟩ ?_
  · exfalso; revert h; simp only [Array.getD_eq_getD_getElem?, Array.getElem?_replicate]; split <;> simp
  · exfalso; revert h; simp only [Array.getD_eq_getD_getElem?, Array.getElem?_replicate]; split <;> simp
  · simp
end
theorem steps_consL {K : World → World → Prop} {G : Array Bool → Act → World → Prop} {P : Program} {l0 : List Oper} {a0 : Act} {Rs : List Tell} {k : Nat} {o : Oper} {l : List Oper} {ks : List (Tmp × Option Nat)} {kss : List (List (Tmp × Option Nat))} {R : Tell} {rs : List Tell}
    (h1 : ∀ listed a w, listed.getD k false = false → (∀ j ∈ odeps o, listed.getD j false = true) → ClosedL l0 listed → k < listed.size → G listed a w → Knows a0 Rs a w ks → wantsG K (G (listed.setIfInBounds k true)) P l0.toArray o a w R) (h2 : StepsL K G P l0 a0 Rs (k + 1) l kss rs) : StepsL K G P l0 a0 Rs k (o :: l) (ks :: kss) (R :: rs) := ⟨h1, h2⟩
end Go.Proofs.YtillhpgdlmeajabGreatDoor

/-
  Small words for regions that draw their order and store (region_growL), where every slot holds a value that is known.
-/
namespace Go.Proofs.YtillhpgdlmeajabGreatDoor
open Go.RowKit
section
variable {w w' : World} {g : Nat} {listed : Array Bool} {a : Act} {l0 : List Oper}
theorem lstM (hcl : ClosedL l0 listed) (i j : Nat) {oi : Oper} (hi : l0[i]? = some oi) (hd : j ∈ odeps oi) (hnot : listed.getD j false = false) : listed.getD i false = false := by
  cases h : listed.getD i false with
  | false => rfl
  | true => rw [hcl i oi hi h j hd] at hnot; cases hnot
theorem wantsG_skipM {K : World → World → Prop} {G : Act → World → Prop} {ops : Array Oper} {o : Oper} {R : Tell} (hg : o.guard = none) (hrun : (execOp a.eval o).run Tryz.prog w = .ok .skip w' ∨ (execOp a.eval o).run Tryz.prog w = .ok (.value undef) w') (h : (K w w' ∧ G (a.put o.dst undef) w') ∧ R undef w') : wantsG K G Tryz.prog ops o a w R := by
  unfold wantsG
  rw [if_pos (by simp [Region.wanted, hg])]
  rcases hrun with e | e <;> rw [e] <;> exact h
theorem wantsG_of1M {K : World → World → Prop} {G : Act → World → Prop} {ops : Array Oper} {o : Oper} {R : Tell} (hK : ∀ w', Kp [] w w' → K w w') (hG : ∀ v w', Kp [] w w' → G (a.put o.dst v) w') (h : wants Tryz.prog ops o a w R) : wantsG K G Tryz.prog ops o a w R := by
  unfold wants at h
  unfold wantsG
  split
  · rename_i hw
    rw [if_pos hw] at h
    generalize (execOp a.eval o).run Tryz.prog w = r at *
    cases r with
    | ok x w' =>
      cases x <;> simp only [grown] at h <;> simp only [grownG]
      case value v => exact ⟨⟨hK _ h.1, hG v w' h.1⟩, h.2⟩
      case skip => exact ⟨⟨hK _ h.1, hG undef w' h.1⟩, h.2⟩
      case enter f args =>
        refine h.mono ?_
        rintro e w'' ⟨v, rfl, h1, h2⟩
        exact ⟨v, rfl, ⟨hK _ h1, hG v w'' h1⟩, h2⟩
    | halt x w' => simp only [grown] at h
  · rename_i hw
    rw [if_neg hw] at h
    exact ⟨⟨hK _ (Kp.refl _ _), hG undef w (Kp.refl _ _)⟩, h⟩
theorem getD_set_neM {i j : Nat} (h : i ≠ j) : (listed.setIfInBounds i true).getD j false = listed.getD j false := by
  simp [h]
end
end Go.Proofs.YtillhpgdlmeajabGreatDoor

/-
  A signed checkpoint that is told by a call and stored in a new block, in whatever order: what stays.
-/
namespace Go.Proofs.YtillhpgdlmeajabGreatDoor.umix
open Go.RowKit
open Go.Proofs
open Go.Proofs.YtillhpgdlmeajabGreatDoor
set_option linter.unusedVariables false
/-- a block that holds a signed checkpoint. -/
def IsSg (w : World) (g : Nat) : Prop := ∃ (x y : Int) (a1 : Option Addr) (n1 c1 : Nat) (a2 : Option Addr) (n2 c2 : Nat) (a3 : Option Addr) (n3 c3 : Nat), w.heap[g]? = some (.cells #[.int .i64 x, .slice a1 n1 c1, .int .i64 y, .slice a2 n2 c2, .slice a3 n3 c3] 54 (0, 0))
def Big (s : Sg) : Prop := 3 ≤ s.ps.length ∧ 3 ≤ s.qs.length
theorem off5 {b g : Nat} {w w' : World} {v : Value} {s : Sg} (h : SgA b w v s) (hc : Big s) (hb : b ≤ g) (hg : IsSg w g) (k : Kp [g] w w') : SgA b w' v s := fun S w2 hS k2 => by
  obtain ⟨x, y, a1, n1, c1, a2, n2, c2, a3, n3, c3, hg⟩ := hg
  have hgS : g ∉ S := fun hm => by have := hS g hm; omega
  have hgl : g < w.heap.size := lt_of_block hg
  have hg2 : g < w2.heap.size := Nat.lt_of_lt_of_le hgl (Nat.le_trans k.size k2.size)
  obtain ⟨w3, hw3⟩ : ∃ w3 : World, w3 = { w2 with heap := w2.heap.setIfInBounds g (.cells #[.int .i64 x, .slice a1 n1 c1, .int .i64 y, .slice a2 n2 c2, .slice a3 n3 c3] 54 (0, 0)) } := ⟨_, rfl⟩
  have hg3 : w3.heap[g]? = some (.cells #[.int .i64 x, .slice a1 n1 c1, .int .i64 y, .slice a2 n2 c2, .slice a3 n3 c3] 54 (0, 0)) := by rw [hw3]; simp [hg2]
  have ho : ∀ i, i ≠ g → w3.heap[i]? = w2.heap[i]? := fun i hi => by
    rw [hw3]
    exact Array.getElem?_setIfInBounds_ne (fun e => hi e.symm)
  have hsz : w3.heap.size = w2.heap.size := by rw [hw3]; simp
  have K3 : Kp S w w3 := ⟨by rw [hw3]; exact k2.os.trans k.os, by rw [hw3]; exact k2.tape.trans k.tape, by rw [hw3]; exact k2.output.trans k.output, by rw [hsz]; exact Nat.le_trans k.size k2.size, fun i hi hs => by
    by_cases e : i = g
    · subst e; rw [hg3, hg]
    · rw [ho i e]
      exact (k2.block i (Nat.lt_of_lt_of_le hi k.size) hs).trans (k.block i hi (by simpa using e))⟩
  have K32 : Kp [g] w3 w2 := ⟨by rw [hw3], by rw [hw3], by rw [hw3], by rw [hsz]; exact Nat.le_refl _, fun i hi hs => (ho i (by simpa using hs)).symm⟩
  exact sg_off5 hg3 K32 (h S w3 hS K3) hc.1 hc.2
def AnyT : Tell := fun _ _ => True
def SgAT (b : Nat) (s : Sg) : Tell := fun v w => SgA b w v s
/-- a pair: a signed checkpoint, and why not. -/
def PrT (b : Nat) (s : Sg) (e : Int) : Tell := fun v w => ∃ x, v = .tuple #[x, .int .i64 e] ∧ SgA b w x s
theorem grown_x0 {o : Oper} {a : Act} {w : World} (x : Operand) (ho : o.op = .extract x 0) (b : Nat) (s : Sg) (e : Int) (h : PrT b s e (a.eval x) w) : grown Tryz.prog w (SgAT b s) ((execOp a.eval o).run Tryz.prog w) := by
  obtain ⟨y, h1, h2⟩ := h
  refine grown_run (v := y) ?_ (Kp.refl _ _) h2
  obtain ⟨ρ, hρ, _⟩ := eval_is a
  rw [hρ] at h1 ⊢
  unfold execOp
  simp only [ho]
  simp [go_sem, h1]
theorem grown_x1 {o : Oper} {a : Act} {w : World} (x : Operand) (ho : o.op = .extract x 1) (b : Nat) (s : Sg) (e : Int) (h : PrT b s e (a.eval x) w) : grown Tryz.prog w (Is (.int .i64 e)) ((execOp a.eval o).run Tryz.prog w) := by
  obtain ⟨y, h1, h2⟩ := h
  refine grown_run (v := .int .i64 e) ?_ (Kp.refl _ _) rfl
  obtain ⟨ρ, hρ, _⟩ := eval_is a
  rw [hρ] at h1 ⊢
  unfold execOp
  simp only [ho]
  simp [go_sem, h1]
theorem grown_bcks {o : Oper} {a : Act} {w : World} {n : Int} {r : List Int} (x0 x1 : Operand) (ho : o.op = .build 50 #[(0, x0), (1, x1)]) (h0 : a.eval x0 = .int .i64 n) (h1 : SlT r (a.eval x1) w) (hB : Bs r) :
    grown Tryz.prog w (CkT n r) ((execOp a.eval o).run Tryz.prog w) := by
  have h2 : Sl w (a.eval x1) r := h1
  obtain ⟨ar, cr, e, _⟩ := id h2
  rw [e] at h2
  refine grown_run (v := .agg #[.int .i64 n, .slice ar r.length cr]) ?_ (Kp.refl _ _) ⟨ar, r.length, cr, rfl, h2, hB⟩
  obtain ⟨ρ, hρ, _⟩ := eval_is a
  rw [hρ] at e h0 ⊢
  unfold execOp
  simp only [ho]
  simp [go_sem, e, h0]
/-- nothing old was changed, but for one signed checkpoint from B on. -/
def KN (B : Nat) (w w' : World) : Prop := Kp [] w w' ∨ ∃ g, B ≤ g ∧ IsSg w g ∧ IsSg w' g ∧ Kp [g] w w'
def NewX (B : Nat) : Tell := fun v w => ∃ g, v = .pointer (some ⟨g, 0, none⟩) ∧ IsSg w g ∧ B ≤ g
theorem stableN_any {B : Nat} : Tell.stableG (KN B) AnyT := fun _ _ _ _ h => h
theorem stableN_is {B : Nat} (c : Value) : Tell.stableG (KN B) (Is c) := fun _ _ _ _ h => h
theorem stableN_sl {B : Nat} (bs : List Int) : Tell.stableG (KN B) (SlT bs) := fun v w w' k h => by
  have h0 : Sl w v bs := h
  rcases k with k | ⟨g, _, hs, _, k⟩
  · exact h0.kept k (by simp)
  · obtain ⟨ao, c, rfl, -⟩ := id h0
    obtain ⟨x, y, a1, n1, c1, a2, n2, c2, a3, n3, c3, hg⟩ := hs
    exact Sl.offBy h0 (noBy_sgd hg) k
theorem stableN_ck {B : Nat} (n : Int) (r : List Int) : Tell.stableG (KN B) (CkT n r) := fun v w w' k h => by
  obtain ⟨a, m, c, e, h1, h2⟩ := h
  exact ⟨a, m, c, e, stableN_sl r _ _ _ k h1, h2⟩
theorem keepN {B b : Nat} {w w' : World} {v : Value} {s : Sg} (hs : Big s) (hb : b ≤ B) (k : KN B w w') (h : SgA b w v s) : SgA b w' v s := by
  rcases k with k | ⟨g, hB, hg, _, k⟩
  · exact h.kept (S := []) (by simp) k
  · exact off5 h hs (by omega) hg k
theorem stableN_sg {B b : Nat} (s : Sg) (hs : Big s) (hb : b ≤ B) : Tell.stableG (KN B) (SgAT b s) := fun _ _ _ k h => keepN hs hb k h
theorem stableN_prt {B b : Nat} (s : Sg) (e : Int) (hs : Big s) (hb : b ≤ B) : Tell.stableG (KN B) (PrT b s e) := fun _ _ _ k ⟨x, h1, h2⟩ => ⟨x, h1, keepN hs hb k h2⟩
theorem stableN_new {B : Nat} (B' : Nat) : Tell.stableG (KN B) (NewX B') := fun v w w' k ⟨g, e, h1, h2⟩ => by
  rcases k with k | ⟨g', _, hg, hg', k⟩
  · obtain ⟨x, y, a1, n1, c1, a2, n2, c2, a3, n3, c3, h⟩ := h1
    exact ⟨g, e, ⟨x, y, a1, n1, c1, a2, n2, c2, a3, n3, c3, k.heap h (by simp)⟩, h2⟩
  · by_cases hh : g = g'
    · rw [hh] at e h2; exact ⟨g', e, hg', h2⟩
    · obtain ⟨x, y, a1, n1, c1, a2, n2, c2, a3, n3, c3, h⟩ := h1
      exact ⟨g, e, ⟨x, y, a1, n1, c1, a2, n2, c2, a3, n3, c3, k.heap h (by simpa using hh)⟩, h2⟩
theorem grown_newx {o : Oper} {a : Act} {w : World} (s0 : Nat) (hs : s0 ≤ w.heap.size) (ho : o.op = .alloc 54) : grown Tryz.prog w (NewX s0) ((execOp a.eval o).run Tryz.prog w) := by
  refine grown_run (v := .pointer (some ⟨w.heap.size, 0, none⟩)) (w' := w.alloc (.cells #[.int .i64 0, .slice none 0 0, .int .i64 0, .slice none 0 0, .slice none 0 0] 54)) ?_ ((Kp.refl [] w).alloc _) ⟨_, rfl, ⟨0, 0, none, 0, 0, none, 0, 0, none, 0, 0, heap_alloc_new w _⟩, hs⟩
  unfold execOp
  simp only [ho]
  simp [go_sem]
/-- what was stored so far. -/
def GN (w0 : World) (k tp tv : Nat) (listed : Array Bool) (a : Act) (w : World) : Prop :=
  Kp [] w0 w ∧ (listed.getD k false = true → ∃ g cs, a.eval (.tmp tp) = .pointer (some ⟨g, 0, none⟩) ∧ a.eval (.tmp tv) = .agg cs ∧ w.heap[g]? = some (.cells cs 54 (0, 0)))
section
variable {w0 w w' : World} {k tp tv : Nat} {listed : Array Bool} {a : Act}
theorem GN.free (h : GN w0 k tp tv listed a w) (k' : Nat) (hk : k' ≠ k) (d : Tmp) (hd : d = tp ∨ d = tv → listed.getD k false = false) (v : Value) (K : Kp [] w w') : GN w0 k tp tv (listed.setIfInBounds k' true) (a.put (some d) v) w' := by
  refine ⟨h.1.trans K, fun hl => ?_⟩
  rw [getD_set_neM hk] at hl
  obtain ⟨g, cs, e1, e2, hg⟩ := h.2 hl
  have h1 : d ≠ tp := fun e => by rw [hd (.inl e)] at hl; cases hl
  have h2 : d ≠ tv := fun e => by rw [hd (.inr e)] at hl; cases hl
  exact ⟨g, cs, by rw [eval_put_ne h1]; exact e1, by rw [eval_put_ne h2]; exact e2, K.heap hg (by simp)⟩
theorem GN.st {ops : Array Oper} {o : Oper} {b : Nat} {s : Sg} (h : GN w0 k tp tv listed a w) (hsz : k < listed.size) (hg : o.guard = none) (ho : o.op = .store 54 (.tmp tp) (.tmp tv)) (hd : o.dst = none) (hp : NewX w0.heap.size (a.eval (.tmp tp)) w) (hu : SgAT b s (a.eval (.tmp tv)) w) : wantsG (KN w0.heap.size) (GN w0 k tp tv (listed.setIfInBounds k true)) Tryz.prog ops o a w AnyT := by
  obtain ⟨g, e1, hs, hb⟩ := hp
  have hu' : SgV w (a.eval (.tmp tv)) s := SgA.v hu
  obtain ⟨ar, mr, cr, ap, np, cp, aq, nq, cq, e2, -, -⟩ := hu'.shape
  obtain ⟨x, y, a1, n1, c1, a2, n2, c2, a3, n3, c3, hh⟩ := id hs
  have K := kp_fcells w g [.int .i64 s.n, .slice ar mr cr, .int .i64 s.i, .slice ap np cp, .slice aq nq cq] 0 w (Kp.refl _ _)
  have G' := heap_fcells g _ [.int .i64 s.n, .slice ar mr cr, .int .i64 s.i, .slice ap np cp, .slice aq nq cq] 0 w _ hh
  have hrun := run_storeAt_mid (P := Tryz.prog) w g 0 54 #[.int .i64 s.n, .slice ar mr cr, .int .i64 s.i, .slice ap np cp, .slice aq nq cq] (fun j hj => by
    rw [Nat.zero_add, cell_of_row w g j _ _ _ hh]
    refine ⟨?_, frozen_of_row w g j _ _ hh⟩
    have hj5 : j < 5 := by simpa using hj
    rcases (by omega : j = 0 ∨ j = 1 ∨ j = 2 ∨ j = 3 ∨ j = 4) with rfl | rfl | rfl | rfl | rfl <;> rfl) Tryz.sgdSize (by simp [Value.oneCell'])
  refine wantsG_skipM (w' := w.setCells g 0 [.int .i64 s.n, .slice ar mr cr, .int .i64 s.i, .slice ap np cp, .slice aq nq cq]) hg ?_ ⟨⟨.inr ⟨g, hb, hs, ⟨s.n, s.i, ar, mr, cr, ap, np, cp, aq, nq, cq, G'⟩, K⟩, h.1.then K (fun i hi => .inr (by simp at hi; omega)), fun _ => ⟨g, _, by rw [hd]; exact e1, by rw [hd]; exact e2, G'⟩⟩, trivial⟩
  unfold execOp
  simp only [ho, e1, e2, Sem.run_bind, hrun, Result.andThen_ok, Sem.run_pure]
  exact .inl trivial
end
end Go.Proofs.YtillhpgdlmeajabGreatDoor.umix

/-
  A ledger in memory: its block, its shelf, its journal, its box, its seed, what it published last; how it is kept.
-/
import Derived.Test.YteabdojjllfcpaaGreatQC18
import Derived.Test.YteabdojjllfcpaaGreatQC16
namespace Go.Proofs.YteabdojjllfcpaaGreat
open Go.RowKit
open Go.Proofs
set_option linter.unusedVariables false
/-- the root over items. -/
def rtU (l : List (List Int)) : List Int := trootP (l.map tleafP)
/-- what was published of the first a.1 items, by the key a.2. -/
def sgU (seed : List Int) (l : List (List Int)) (a : Nat × Nat) : Sg := sgnC seed a.2 a.1 (rtU (l.take a.1))
/-- what a ledger is: items, how many keys are used, the seed, what was published last (size, key), both disks, bounds of the journals' counts. -/
structure LS where
  its : List (List Int)
  n : Nat
  seed : List Int
  la : Option (Nat × Nat)
  dd : Dk
  dk : Dk
  mj : Nat
  mb : Nat
/-- a signed checkpoint that stays so whatever becomes of other blocks than F. -/
def SgF (F : Nat → Prop) (w : World) (v : Value) (s : Sg) : Prop := ∀ (S : List Nat) (w2 : World), (∀ q ∈ S, ¬ F q) → Kp S w w2 → SgV w2 v s
theorem SgF.kept {F : Nat → Prop} {w w' : World} {v : Value} {s : Sg} {S : List Nat} (h : SgF F w v s) (k : Kp S w w') (hS : ∀ q ∈ S, ¬ F q) : SgF F w' v s := fun S2 w2 h2 k2 =>
  h (S ++ S2) w2 (fun q hq => (List.mem_append.1 hq).elim (hS q) (h2 q)) (k.comp k2)
theorem SgF.v {F : Nat → Prop} {w : World} {v : Value} {s : Sg} (h : SgF F w v s) : SgV w v s := h [] w (by simp) (Kp.refl _ _)
theorem SgA.f {b : Nat} {w w' : World} {v : Value} {s : Sg} (h : SgA b w v s) (k : Kp [] w w') : SgF (fun i => b ≤ i ∧ i < w'.heap.size) w' v s := fun S w2 hS k2 =>
  h (S.filter (fun i => decide (i < b))) w2 (fun q hq => of_decide_eq_true (List.mem_filter.1 hq).2) ((k.mono (by simp)).then k2 (fun i hi => by
    by_cases h1 : i < b
    · exact .inl (List.mem_filter.2 ⟨hi, decide_eq_true h1⟩)
    · have := hS i hi
      have := k.size
      exact .inr (by omega)))
/-- what was published last: nothing, or a block with a signed checkpoint. -/
def LaP (w : World) (pv : Value) (seed : List Int) (l : List (List Int)) (la : Option (Nat × Nat)) (F : Nat → Prop) : Prop := match la with
  | none => pv = .pointer none
  | some a => a.1 ≤ l.length ∧ a.2 < 16 ∧ ∃ t r p q, pv = .pointer (some ⟨t, 0, none⟩) ∧ F t ∧ Fv 150 w t (.int .i64 a.1) r (.int .i64 a.2) p q ∧ SgF F w (.agg #[.int .i64 a.1, r, .int .i64 a.2, p, q]) (sgU seed l a)
theorem LaP.kept {w w' : World} {pv : Value} {seed : List Int} {l : List (List Int)} {la : Option (Nat × Nat)} {F : Nat → Prop} {S : List Nat} (h : LaP w pv seed l la F) (k : Kp S w w') (hS : ∀ q ∈ S, ¬ F q) : LaP w' pv seed l la F := by
  cases la with
  | none => exact h
  | some a =>
    obtain ⟨h1, h2, t, r, p, q, e, h3, h4, h5⟩ := h
    exact ⟨h1, h2, t, r, p, q, e, h3, h4.kept k (fun hm => hS _ hm h3), h5.kept k hS⟩
theorem LaP.more {w : World} {pv : Value} {seed : List Int} {l t : List (List Int)} {la : Option (Nat × Nat)} {F : Nat → Prop} (h : LaP w pv seed l la F) : LaP w pv seed (l ++ t) la F := by
  cases la with
  | none => exact h
  | some a =>
    obtain ⟨h1, h2, tt, r, p, q, e, h3, h4, h5⟩ := h
    refine ⟨by rw [List.length_append]; omega, h2, tt, r, p, q, e, h3, h4, ?_⟩
    unfold sgU
    rw [List.take_append_of_le_length h1]
    exact h5
/-- The ledger at l, its disks at pd and pk: its journal at j, shelf at s, box at q, seed vs, what was published pv. 1 its block, 2 its seed, 3 what was published, 4 its shelf, 5 the journal, 6 the box. -/
structure LgX (w0 w : World) (l pd pk : Nat) (S : LS) (f : Fps) (j s q : Nat) (vs pv : Value) : Prop where
  ok : f.Ok w0 w
  at_ : Fv 80 w l (.func (.func 34) #[.pointer (some ⟨j, 0, none⟩)] #[]) (.pointer (some ⟨s, 0, none⟩)) (.pointer (some ⟨q, 0, none⟩)) vs pv
  f1 : f 1 l
  sd : Sl w vs S.seed
  f2 : ∀ k, vs.ownBlock = some k → f 2 k
  la : LaP w pv S.seed S.its S.la (f 3)
  sh : Sh w s S.its (f 4)
  jx : Jx w0 w pd S.dd j S.mj (f 5)
  bf : Bf w0 w pk S.dk q S.n S.mb (f 6)
  sl : S.seed.length = 32
  sb : Bs S.seed
  few : S.its.length ≤ 256
  nk : S.n ≤ 16
def Lg (w0 w : World) (l pd pk : Nat) (S : LS) (f : Fps) : Prop := ∃ j s q vs pv, LgX w0 w l pd pk S f j s q vs pv
/-- a step of the ledger: of it, all that lies in its blocks. -/
def LSt (w : World) (f : Fps) (w' : World) (f' : Fps) : Prop := Stp f.tot w w' f'.tot
theorem upd_ne {f : Fps} {a b : Nat} {F : Nat → Prop} (h : b ≠ a) : f.upd a F b = f b := funext fun i => propext ⟨fun e => by rcases e with ⟨e, _⟩ | ⟨_, e⟩; exact absurd e h; exact e, fun e => .inr ⟨h, e⟩⟩
theorem upd_eq {f : Fps} {a : Nat} {F : Nat → Prop} : f.upd a F a = F := funext fun i => propext ⟨fun e => by rcases e with ⟨_, e⟩ | ⟨e, _⟩; exact e; exact absurd rfl e, fun e => .inl ⟨rfl, e⟩⟩
section
variable {w0 w w' : World} {l pd pk j s q : Nat} {S : LS} {f : Fps} {vs pv : Value}
/-- what lies elsewhere is written. -/
theorem LgX.beside (h : LgX w0 w l pd pk S f j s q vs pv) {T : List Nat} (k : Kp T w w') (hT : ∀ i ∈ T, w0.heap.size ≤ i ∧ ¬ f.tot i) : LgX w0 w' l pd pk S f j s q vs pv := by
  have k0 : Kp [] w0 w' := h.ok.kp.then k (fun i hi => .inr (hT i hi).1)
  have no : ∀ a, ∀ i ∈ T, ¬ f a i := fun a i hi ha => (hT i hi).2 ⟨a, ha⟩
  exact ⟨⟨k0, h.ok.ap, fun a i hi => ⟨(h.ok.rng a i hi).1, Nat.lt_of_lt_of_le (h.ok.rng a i hi).2 k.size⟩⟩, h.at_.kept k (fun hm => no 1 _ hm h.f1), h.f1, h.sd.kept k (fun i hi hm => no 2 i hm (h.f2 i hi)), h.f2, h.la.kept k (no 3), h.sh.kept k (no 4), h.jx.kept k k0 (no 5), h.bf.kept k k0 (no 6), h.sl, h.sb, h.few, h.nk⟩
theorem LgX.on (h : LgX w0 w l pd pk S f j s q vs pv) (k : Kp [] w w') : LgX w0 w' l pd pk S f j s q vs pv := h.beside k (by simp)
/-- the journal takes a step. -/
theorem LgX.stepJ {F' : Nat → Prop} {dd' : Dk} {mj' : Nat} (h : LgX w0 w l pd pk S f j s q vs pv) (t : Stp (f 5) w w' F') (g : Jx w0 w' pd dd' j mj' F') : LgX w0 w' l pd pk { S with dd := dd', mj := mj' } (f.upd 5 F') j s q vs pv := by
  obtain ⟨T, hT, k⟩ := t.kp
  have o := h.ok.upd t
  have no : ∀ b, 5 ≠ b → ∀ i ∈ T, ¬ f b i := fun b hb => h.ok.apart hb hT
  refine ⟨o, h.at_.kept k (fun hm => no 1 (by decide) _ hm h.f1), ?_, h.sd.kept k (fun i hi hm => no 2 (by decide) i hm (h.f2 i hi)), ?_, ?_, ?_, ?_, ?_, h.sl, h.sb, h.few, h.nk⟩
  · rw [upd_ne (by decide)]; exact h.f1
  · rw [upd_ne (by decide)]; exact h.f2
  · rw [upd_ne (by decide)]; exact h.la.kept k (no 3 (by decide))
  · rw [upd_ne (by decide)]; exact h.sh.kept k (no 4 (by decide))
  · rw [upd_eq]; exact g
  · rw [upd_ne (by decide)]; exact h.bf.kept k o.kp (no 6 (by decide))
/-- the shelf takes a step. -/
theorem LgX.stepS {F' : Nat → Prop} {x : List (List Int)} (h : LgX w0 w l pd pk S f j s q vs pv) (t : Stp (f 4) w w' F') (g : Sh w' s (S.its ++ x) F') (hn : (S.its ++ x).length ≤ 256) : LgX w0 w' l pd pk { S with its := S.its ++ x } (f.upd 4 F') j s q vs pv := by
  obtain ⟨T, hT, k⟩ := t.kp
  have o := h.ok.upd t
  have no : ∀ b, 4 ≠ b → ∀ i ∈ T, ¬ f b i := fun b hb => h.ok.apart hb hT
  refine ⟨o, h.at_.kept k (fun hm => no 1 (by decide) _ hm h.f1), ?_, h.sd.kept k (fun i hi hm => no 2 (by decide) i hm (h.f2 i hi)), ?_, ?_, ?_, ?_, ?_, h.sl, h.sb, hn, h.nk⟩
  · rw [upd_ne (by decide)]; exact h.f1
  · rw [upd_ne (by decide)]; exact h.f2
  · rw [upd_ne (by decide)]; exact (h.la.kept k (no 3 (by decide))).more
  · rw [upd_eq]; exact g
  · rw [upd_ne (by decide)]; exact h.jx.kept k o.kp (no 5 (by decide))
  · rw [upd_ne (by decide)]; exact h.bf.kept k o.kp (no 6 (by decide))
/-- something new is published: its block is made, and the ledger's cell is written. -/
theorem LgX.stepL {F' : Nat → Prop} {a : Nat × Nat} {pv' : Value} {w1 : World} (h : LgX w0 w l pd pk S f j s q vs pv) (k : Kp [] w w1) (hF : ∀ i, F' i → w.heap.size ≤ i ∧ i < w1.heap.size) (g : LaP w1 pv' S.seed S.its (some a) F') : LgX w0 (w1.setCell ⟨l, 4, none⟩ pv') l pd pk { S with la := some a } (f.upd 3 F') j s q vs pv' ∧ Stp f.tot w (w1.setCell ⟨l, 4, none⟩ pv') (f.upd 3 F').tot := by
  have h1 := h.on k
  have ks : Kp [l] w1 (w1.setCell ⟨l, 4, none⟩ pv') := kp_set w1 l 4 _
  have hsz : (w1.setCell ⟨l, 4, none⟩ pv').heap.size = w1.heap.size := by simp [World.setCell]
  have hl := h.ok.rng 1 l h.f1
  have t3 : Stp (f 3) w w1 F' := ⟨⟨[], by simp, k⟩, fun i hi => .inr (hF i hi)⟩
  have o1 := h.ok.upd t3
  have k0 : Kp [] w0 (w1.setCell ⟨l, 4, none⟩ pv') := o1.kp.then ks (fun i hi => .inr (by simp at hi; omega))
  have no : ∀ b, 1 ≠ b → ∀ i ∈ [l], ¬ f b i := fun b hb i hi => by simp at hi; subst hi; exact fun e => hb (h.ok.ap 1 b _ h.f1 e)
  have noF : ∀ i ∈ [l], ¬ F' i := fun i hi e => by simp at hi; subst hi; have := hF _ e; omega
  refine ⟨⟨⟨k0, o1.ap, fun b i hi => by rw [hsz]; exact o1.rng b i hi⟩, h1.at_.s4 pv', ?_, h1.sd.kept ks (fun i hi hm => no 2 (by decide) i hm (h1.f2 i hi)), ?_, ?_, ?_, ?_, ?_, h.sl, h.sb, h.few, h.nk⟩, ?_⟩
  · rw [upd_ne (by decide)]; exact h.f1
  · rw [upd_ne (by decide)]; exact h.f2
  · rw [upd_eq]; exact g.kept ks noF
  · rw [upd_ne (by decide)]; exact h1.sh.kept ks (no 4 (by decide))
  · rw [upd_ne (by decide)]; exact h1.jx.kept ks k0 (no 5 (by decide))
  · rw [upd_ne (by decide)]; exact h1.bf.kept ks k0 (no 6 (by decide))
  · refine ⟨⟨[l], fun i hi => by simp at hi; subst hi; exact ⟨1, h.f1⟩, (k.mono (by simp)).trans ks⟩, fun i ⟨b, hb⟩ => ?_⟩
    rcases hb with ⟨rfl, hb⟩ | ⟨_, hb⟩
    · exact .inr (by rw [hsz]; exact hF i hb)
    · exact .inl ⟨b, hb⟩
theorem Lg.on (h : Lg w0 w l pd pk S f) (k : Kp [] w w') : Lg w0 w' l pd pk S f := by
  obtain ⟨j, s, q, vs, pv, h⟩ := h
  exact ⟨j, s, q, vs, pv, h.on k⟩
theorem Lg.beside (h : Lg w0 w l pd pk S f) {T : List Nat} (k : Kp T w w') (hT : ∀ i ∈ T, w0.heap.size ≤ i ∧ ¬ f.tot i) : Lg w0 w' l pd pk S f := by
  obtain ⟨j, s, q, vs, pv, h⟩ := h
  exact ⟨j, s, q, vs, pv, h.beside k hT⟩
theorem Lg.kp (h : Lg w0 w l pd pk S f) : Kp [] w0 w := by obtain ⟨j, s, q, vs, pv, h⟩ := h; exact h.ok.kp
theorem Lg.nd (h : Lg w0 w l pd pk S f) : S.its.Nodup := by obtain ⟨j, s, q, vs, pv, h⟩ := h; exact h.sh.nd
theorem Lg.bs (h : Lg w0 w l pd pk S f) : ∀ x ∈ S.its, Bs x ∧ x.length ≤ 65535 := by obtain ⟨j, s, q, vs, pv, h⟩ := h; exact h.sh.bs
theorem Lg.few (h : Lg w0 w l pd pk S f) : S.its.length ≤ 256 := by obtain ⟨j, s, q, vs, pv, h⟩ := h; exact h.few
theorem Lg.nk (h : Lg w0 w l pd pk S f) : S.n ≤ 16 := by obtain ⟨j, s, q, vs, pv, h⟩ := h; exact h.nk
theorem Lg.lt (h : Lg w0 w l pd pk S f) : ∀ i, f.tot i → w0.heap.size ≤ i ∧ i < w.heap.size := fun i ⟨a, ha⟩ => by obtain ⟨j, s, q, vs, pv, h⟩ := h; exact h.ok.rng a i ha
theorem Lg.base {f' : Fps} (h : Lg w0 w l pd pk S f) (t : LSt w f w' f') : Kp [] w0 w' := t.base h.kp (fun i hi => (h.lt i hi).1)
end
end Go.Proofs.YteabdojjllfcpaaGreat

/-
  The contracts of package ledger: Size, numbered, keep, Add.
-/
namespace Go.Proofs.YteabdojjllfcpaaGreat
open Go.RowKit
open Go.Proofs
set_option linter.unusedVariables false
section
variable {w0 w : World} {l pd pk : Nat} {S : LS} {f : Fps}
theorem usize_any (h : Lg w0 w l pd pk S f) (n : Int) (hn : n = S.its.length) : Calls Tryz.prog 29 #[.pointer (some ⟨l, 0, none⟩)] w fun e w' => e = .returned (.int .i64 n) ∧ w' = w := by
  obtain ⟨j, s, q, vs, pv, h⟩ := h
  have hc := h.at_.c1
  have HZ := hide (ssize_any h.sh n hn)
  clear h hn
  go_enter Tryz.func29, Tryz.ntmps29
  go_wp2_with fail
  refine HZ.out.mono ?_
  rintro ee w1 ⟨rfl, hw⟩
  subst w1
  clear HZ
  go_wp2_with fail
  go_ret
  exact ⟨rfl, rfl⟩
/-- numbers as the program tells them. -/
def nsU (its xs : List (List Int)) : List Int := (numU its xs).map (fun (n : Nat) => (n : Int))
theorem nsU_snoc (its xs : List (List Int)) (x : List Int) : nsU its (xs ++ [x]) = nsU its xs ++ [((allU its xs).idxOf x : Int)] := by unfold nsU; rw [numU_snoc, List.map_append]; rfl
theorem nsU_len (its xs : List (List Int)) : (nsU its xs).length = xs.length := by simp [nsU, numU]
set_option maxRecDepth 100000 in
set_option maxHeartbeats 4000000 in
theorem numbered_any (h : Lg w0 w l pd pk S f) (vi : Value) (li : List (Value × List Int)) (xs : List (List Int)) (hxs : li.map (·.2) = xs) (hL : Lists w vi li) (hl : ∀ x ∈ xs, x.length ≤ 65535) (hn : xs.length ≤ 1000) :
    Calls Tryz.prog 86 #[.pointer (some ⟨l, 0, none⟩), vi] w fun e w' => ∃ ao m c s2, e = .returned (.tuple #[.slice ao m c, .pointer (some ⟨s2, 0, none⟩)]) ∧ RowI w' w.heap.size (.slice ao m c) (nsU S.its xs) ∧ Kp [] w w' ∧ ∃ F, Sh w' s2 (newU S.its xs) F ∧ (∀ i, F i → w.heap.size ≤ i ∧ i < w'.heap.size) := by
  have hB : ∀ x ∈ xs, Bs x := fun x hx => by
    obtain ⟨y, hy, rfl⟩ := List.mem_map.1 (hxs ▸ hx)
    exact hL.bs y hy
  obtain ⟨al, cl, rfl, hl0, hcell⟩ := hL
  obtain ⟨N, hN⟩ : ∃ N, N = li.length := ⟨_, rfl⟩
  have hxl : xs.length = N := by rw [← hxs, hN]; simp
  have hget : ∀ i (hi : i < N), ∃ (hi2 : i < xs.length), ∃ b off, al = some ⟨b, off, none⟩ ∧ ∃ u, w.cell? ⟨b, off + i, none⟩ = some u ∧ Sl w u xs[i] := fun i hi => by
    have hi1 : i < li.length := by omega
    obtain ⟨b, off, e, h1, h2, h3⟩ := hcell i hi1
    have hi2 : i < xs.length := by omega
    refine ⟨hi2, b, off, e, li[i].1, h1, ?_⟩
    have : xs[i] = li[i].2 := by simp [← hxs]
    rw [this]; exact h2
  rw [← hN]
  have HH := hide h
  have HGet := hide hget
  have HB := hide hB
  have HLe := hide hl
  have HX := hide hxl
  have hnN : N ≤ 1000 := by omega
  have hcl : w.cell? ⟨l, 1, none⟩ = w.cell? ⟨l, 1, none⟩ := rfl
  clear hcell hget hB hl hxs hN hl0 h hn hxl hcl
  go_enter Tryz.func86, Tryz.ntmps86
  go_wp2_with fail
  refine (newShelf_any w).mono ?_
  rintro ee w1 ⟨s2, F1, rfl, S1, hF1, K1⟩
  have HS1 := hide S1
  have HF1 := hide hF1
  have HK1 := hide K1
  clear S1 hF1 K1
  go_wp2_with fail
  go_loopw [6, 18] (fun o i wr => ∃ k : Nat, k ≤ N ∧ i = .int .i64 k ∧ (∃ ao m c, o = .slice ao m c) ∧ ∃ F, RowI wr w.heap.size o (nsU S.its (xs.take k)) ∧ Sh wr s2 (newU S.its (xs.take k)) F ∧ (∀ i, F i → w.heap.size ≤ i ∧ i < wr.heap.size) ∧ (∀ i, o.ownBlock = some i → ¬ F i) ∧ Kp [] w wr) (fun _ i _ => N - (intOf i).toNat)
  case atStart => exact ⟨0, by omega, rfl, ⟨_, _, _, rfl⟩, F1, World.ownsRow_nil _ _ _ _, by rw [List.take_zero, newU_nil]; exact HS1.out, HF1.out, (fun i hi => by cases hi), HK1.out⟩
  case round =>
    obtain ⟨k, hk, rfl, ⟨ao, m, c, rfl⟩, F, R, Sf, hF, hoF, K⟩ := hrel
    have HR := hide R
    have HSf := hide Sf
    have HF := hide hF
    have HoF := hide hoF
    have HK := hide K
    clear R Sf hF hoF HS1 HF1
    by_cases hlt : k < N
    · have hlt' : (k : Int) < (N : Int) := by omega
      obtain ⟨hkx, b, off, rfl, u, hu, hSu⟩ := HGet.out k hlt
      have hcu := K.cell hu (by simp)
      have hSu2 := hSu.kept K (by simp)
      obtain ⟨x, hx⟩ : ∃ x, x = xs[k] := ⟨_, rfl⟩
      have hBx : Bs x := by rw [hx]; exact HB.out _ (List.getElem_mem hkx)
      have hlx : x.length ≤ 65535 := by rw [hx]; exact HLe.out _ (List.getElem_mem hkx)
      rw [← hx] at hSu2
      have hcv := hSu2.conv (P := Tryz.prog) 28 9 5 Tryz.underlying28 Tryz.underlying5 Tryz.underlying9
      have htk : xs.take (k + 1) = xs.take k ++ [x] := by rw [List.take_succ_eq_append_getElem hkx, ← hx]
      have HTK := hide htk
      obtain ⟨j, s, q, vs, pv, hg⟩ := HH.out.on K
      have hc1 := hg.at_.c1
      obtain ⟨ax, cx, hux, -⟩ := id hSu2
      obtain ⟨nx, hnx⟩ : ∃ n, n = x.length := ⟨_, rfl⟩
      rw [← hnx] at hux
      rw [hux] at hcu hcv
      have hfr : (newU S.its (xs.take k)).length ≤ 1000 := by have := newU_le S.its (xs.take k); rw [List.length_take] at this; omega
      have hnl : (nsU S.its (xs.take k)).length ≤ 1000 := by rw [nsU_len, List.length_take]; omega
      by_cases hin : x ∈ S.its
      · obtain ⟨ix, hix⟩ : ∃ n, n = S.its.idxOf x := ⟨_, rfl⟩
        have HFi := hide (find_any hg.sh x hBx hlx true (by simp [hin]) (ix : Int) (by rw [hix]; simp))
        have HIX := hide hix
        clear hix
        have HIn := hide hin
        clear hSu hSu2 hu hux hnx hx hg K htk
        go_wp2_with fail
        refine HFi.out.mono ?_
        rintro ee w2 ⟨rfl, hw⟩
        subst w2
        clear HFi
        go_wp2_with (at_builtin; refine wpList_append_rowi rfl (.tmp 45) (.tmp 47) rfl w.heap.size (.slice ao m c) _ rfl HR.out _ rfl (by omega) HK.out.size ?_; intro a3 m3 c3 w3 R3 S3)
        go_roundw
        case rel =>
          have hK3 : Kp [] w w3 := HK.out.then S3.1 (fun i hi => .inr (HR.out.lt (by simpa [Option.mem_toList] using hi)).1)
          refine ⟨k + 1, by omega, by go_num, ⟨a3, m3, c3, rfl⟩, F, ?_, ?_, fun i hi => ⟨(HF.out i hi).1, Nat.lt_of_lt_of_le (HF.out i hi).2 S3.1.size⟩, fun i hi hFi => ?_, hK3⟩
          · rw [HTK.out, nsU_snoc, allU_new, idx_pre HIn.out, ← HIX.out]; exact R3
          · rw [HTK.out, newU_snoc, if_pos (by rw [allU_mem]; exact .inl HIn.out)]
            exact HSf.out.kept S3.1 (fun i hi => HoF.out i (by simpa [Option.mem_toList] using hi))
          · rcases S3.2 i hi with h1 | h1
            · exact HoF.out i h1 hFi
            · have := (HF.out i hFi).2; omega
        case measure => simp [intOf]; omega
      · have HFi := hide (find_any hg.sh x hBx hlx false (by simp [hin]) 0 rfl)
        have HIn := hide hin
        have HP := hide (put_any HSf.out (fun i hi => (HF.out i hi).2) x hBx hlx (by omega))
        have HBx := hide hBx
        clear hSu hSu2 hu hux hnx hx hg K htk
        go_wp2_with fail
        refine HFi.out.mono ?_
        rintro ee w2 ⟨rfl, hw⟩
        subst w2
        clear HFi
        go_wp2_with fail
        refine HP.out.mono ?_
        rintro ee w2 ⟨rfl, F2, Sh2, T2⟩
        obtain ⟨TS, hTS, kTS⟩ := T2.kp
        have hK2 : Kp [] w w2 := HK.out.then kTS (fun i hi => .inr (HF.out i (hTS i hi)).1)
        have HK2 := hide hK2
        have HSh2 := hide Sh2
        have HT2 := hide T2
        have HR2 : Hid (RowI w2 w.heap.size (.slice ao m c) (nsU S.its (xs.take k))) := HR.out.kept kTS (fun i hi hm => HoF.out i hi (hTS i hm))
        have HZ := hide (usize_any (HH.out.on hK2) _ rfl)
        have hidx : (newU S.its (xs.take k)).idxOf x ≤ 1000 := Nat.le_trans List.idxOf_le_length hfr
        have hfew := HH.out.few
        obtain ⟨ix, hix⟩ : ∃ n, n = (newU S.its (xs.take k)).idxOf x := ⟨_, rfl⟩
        obtain ⟨il, hil⟩ : ∃ n, n = S.its.length := ⟨_, rfl⟩
        rw [← hix] at hidx ⊢
        rw [← hil] at hfew HZ
        have hw : IntKind.i64.wrap ((il : Int) + (ix : Int)) = (il : Int) + (ix : Int) := by simp [IntKind.wrap, IntKind.signed, IntKind.bits]; omega
        have HIX := hide hix
        have HIL := hide hil
        clear HP Sh2 T2 hTS kTS hK2 hix hil
        go_wp2_with fail
        refine HZ.out.mono ?_
        rintro ee w2' ⟨rfl, hw2⟩
        subst w2'
        clear HZ
        go_wp2_with (at_builtin; refine wpList_append_rowi rfl (.tmp 45) (.tmp 47) rfl w.heap.size (.slice ao m c) _ rfl HR2.out _ rfl (by omega) HK2.out.size ?_; intro a3 m3 c3 w3 R3 S3)
        go_roundw
        case rel =>
          have hK3 : Kp [] w w3 := HK2.out.then S3.1 (fun i hi => .inr (HR2.out.lt (by simpa [Option.mem_toList] using hi)).1)
          have hlt2 : ∀ i, F2 i → w.heap.size ≤ i ∧ i < w2.heap.size := fun i hi => by
            have := HK.out.size
            have := HT2.out.size
            rcases HT2.out.2 i hi with h1 | h1
            · have := HF.out i h1; omega
            · omega
          have hoF2 : ∀ i, (Value.slice ao m c).ownBlock = some i → ¬ F2 i := fun i hi h2 => by
            rcases HT2.out.2 i h2 with h1 | h1
            · exact HoF.out i hi h1
            · have := (HR.out.lt hi).2; omega
          refine ⟨k + 1, by omega, by go_num, ⟨a3, m3, c3, rfl⟩, F2, ?_, ?_, fun i hi => ⟨(hlt2 i hi).1, Nat.lt_of_lt_of_le (hlt2 i hi).2 S3.1.size⟩, fun i hi hFi => ?_, hK3⟩
          · rw [HTK.out, nsU_snoc, allU_new, idx_post HIn.out, ← HIX.out, ← HIL.out]
            have e : (((ix + il : Nat)) : Int) = (il : Int) + (ix : Int) := by omega
            rw [e]; exact R3
          · have e : newU S.its (xs.take (k + 1)) = insU (newU S.its (xs.take k)) x := by
              rw [HTK.out, newU_snoc]
              unfold insU
              have : (x ∈ allU S.its (xs.take k)) ↔ x ∈ newU S.its (xs.take k) := by
                rw [allU_new, List.mem_append]
                exact ⟨fun h => h.resolve_left HIn.out, .inr⟩
              simp only [this]
            rw [e]
            exact HSh2.out.kept S3.1 (fun i hi => hoF2 i (by simpa [Option.mem_toList] using hi))
          · rcases S3.2 i hi with h1 | h1
            · exact hoF2 i h1 hFi
            · have := (hlt2 i hFi).2; omega
        case measure => simp [intOf]; omega
    · have hkn : k = N := by omega
      have hnlt : ¬ (k : Int) < (N : Int) := by omega
      have e : xs.take k = xs := List.take_of_length_le (by have := HX.out; omega)
      rw [e] at HR HSf
      clear K hkn e
      go_wp2_with fail
      go_ret2
      exact ⟨ao, m, c, s2, rfl, HR.out, HK.out, F, HSf.out, HF.out⟩
set_option maxRecDepth 100000 in
set_option maxHeartbeats 4000000 in
theorem ukeep_any (h : Lg w0 w l pd pk S f) (v : Value) (fr : List (List Int)) (h0 : fr ≠ []) (hR : ∀ w' F', Stp f.tot w w' F' → RowU w' 0 v fr) (hB : ∀ x ∈ fr, Bs x ∧ x.length ≤ 65535) (hnd : (S.its ++ fr).Nodup) (hn : (S.its ++ fr).length ≤ 256) (hmj : S.mj ≤ 1000) (hlen : (batU fr).length ≤ 65535) (er : Bool) (dd' : Dk) (he : S.dd.add (recP (batU fr)) = (er, dd')) (en : Int) (hen : en = if er then 0 else 13) :
    Calls Tryz.prog 87 #[.pointer (some ⟨l, 0, none⟩), v] w fun e w' => e = .returned (.int .i64 en) ∧ ∃ f', Lg w0 w' l pd pk { S with dd := dd', mj := S.mj + 1, its := if er then S.its ++ fr else S.its } f' ∧ LSt w f w' f' := by
  have hR0 := hR w _ (Stp.refl _ _)
  have hfn : fr.length ≤ 256 := by rw [List.length_append] at hn; omega
  have HL := hide (ulaid_any v fr w hR0 hB (by omega))
  obtain ⟨ao, c, hv⟩ := hR0.shape
  obtain ⟨n, hnn⟩ : ∃ n, n = fr.length := ⟨_, rfl⟩
  have hpos : 0 < n := by rw [hnn]; exact List.length_pos_iff.2 h0
  rw [← hnn] at hv
  have hn256 : n ≤ 256 := by omega
  have hne : ¬ (n : Int) = 0 := by omega
  have hne' : ((n : Int) == 0) = false := by simpa using hne
  have HH := hide h
  have HLen := hide hlen
  have HR := hide hR
  have HB := hide hB
  have HND := hide hnd
  have HN := hide hn
  have HE := hide he
  have HEN := hide hen
  have HNN := hide hnn
  have HV := hide hv
  have HMJ := hide hmj
  subst hv
  clear hR0 hR hB h0 h hlen hnn hnd hn he hen hfn hmj
  go_enter Tryz.func87, Tryz.ntmps87
  go_wp2_with fail
  refine HL.out.mono ?_
  rintro ee w1 ⟨a1, m1, c1, rfl, R1, K1⟩
  obtain ⟨j, s, q, vs, pv, hx⟩ := HH.out.on K1
  have hc0 := hx.at_.c0
  have HJ := hide (jx_add hx.jx R1.sl (batU_bs (fun x hx => (HB.out x hx).1)) HLen.out HMJ.out er HE.out en HEN.out)
  have HK1 := hide K1
  have HX := hide hx
  clear HL R1 K1 hx
  go_wp2_with fail
  refine HJ.out.mono ?_
  rintro ee w2 ⟨rfl, F5, J2, T2⟩
  have hx2 := HX.out.stepJ T2 J2
  have HT2 : Hid (Stp f.tot w w2 (f.upd 5 F5).tot) := (Stp.mid HK1.out).trans T2.one
  have HX2 := hide hx2
  clear HJ J2 T2 hx2 HX hc0
  cases er
  · obtain rfl : en = 13 := by rw [HEN.out]; rfl
    go_wp2_with fail
    go_ret
    exact ⟨rfl, f.upd 5 F5, ⟨j, s, q, vs, pv, HX2.out⟩, HT2.out⟩
  · obtain rfl : en = 0 := by rw [HEN.out]; rfl
    go_wp2_with fail
    go_loopw [31] (fun i wr => ∃ k : Nat, k ≤ n ∧ i = .int .i64 k ∧ ∃ f', LgX w0 wr l pd pk { S with dd := dd', mj := S.mj + 1, its := S.its ++ fr.take k } f' j s q vs pv ∧ Stp f.tot w wr f'.tot) (fun i _ => n - (intOf i).toNat)
    case atStart => exact ⟨0, by omega, rfl, f.upd 5 F5, by rw [List.take_zero, List.append_nil]; exact HX2.out, HT2.out⟩
    case round =>
      obtain ⟨k, hk, rfl, f', hx, hT⟩ := hrel
      have HX := hide hx
      have HT := hide hT
      clear HX2 HT2
      by_cases hlt : k < n
      · have hlt' : (k : Int) < (n : Int) := by omega
        have hkl : k < fr.length := by have := HNN.out; omega
        obtain ⟨g, rfl, hc⟩ := (HR.out wr _ hT).at k hkl
        obtain ⟨hBx, hlx⟩ := HB.out fr[k] (List.getElem_mem hkl)
        have hc1 := hx.at_.c1
        have htk : fr.take (k + 1) = fr.take k ++ [fr[k]] := List.take_succ_eq_append_getElem hkl
        have hnin : fr[k] ∉ S.its ++ fr.take k := by
          have h1 : S.its ++ fr = (S.its ++ fr.take k) ++ fr.drop k := by rw [List.append_assoc, List.take_append_drop]
          have h2 := HND.out
          rw [h1] at h2
          intro hm
          refine (List.nodup_append.1 h2).2.2 _ hm fr[k] ?_ rfl
          rw [List.mem_iff_getElem]
          exact ⟨0, by simp; omega, by simp⟩
        have hsm : (S.its ++ fr.take (k + 1)).length ≤ 256 := by have := HN.out; rw [List.length_append] at this ⊢; rw [List.length_take]; omega
        obtain ⟨x, hxx⟩ : ∃ x, x = fr[k] := ⟨_, rfl⟩
        rw [← hxx] at hc hBx hlx htk hnin
        have HP := hide (put_new hx.sh (fun i hi => (hx.ok.rng 4 i hi).2) x hBx hlx hnin (by have := hx.few; omega) _ rfl)
        have HTK := hide htk
        have HSM := hide hsm
        clear hx hT hxx htk hsm hnin
        go_wp2_with fail
        refine HP.out.mono ?_
        rintro ee w3 ⟨rfl, F4, S3, T3⟩
        have HX3 := hide (HX.out.stepS T3 (by simpa using S3) (by have := HSM.out; rw [HTK.out] at this; simpa using this))
        have HT3 : Hid (Stp f.tot w w3 (f'.upd 4 F4).tot) := HT.out.trans T3.one
        clear HP S3 T3 hc1 hc
        go_wp2_with fail
        go_roundw
        case rel => exact ⟨k + 1, by omega, by go_num, f'.upd 4 F4, by rw [HTK.out, ← List.append_assoc]; exact HX3.out, HT3.out⟩
        case measure => simp [intOf]; omega
      · have hkn : k = n := by omega
        have hnlt : ¬ (k : Int) < (n : Int) := by omega
        have e : fr.take k = fr := List.take_of_length_le (by have := HNN.out; omega)
        rw [e] at HX
        clear hx hT hkn e
        go_wp2_with fail
        go_ret
        exact ⟨rfl, f', ⟨j, s, q, vs, pv, HX.out⟩, HT.out⟩
/-- Add of items of which some are new, and for which there is room. -/
theorem uadd_any (h : Lg w0 w l pd pk S f) (vi : Value) (li : List (Value × List Int)) (xs : List (List Int)) (hxs : li.map (·.2) = xs) (hL : Lists w vi li) (hl : ∀ x ∈ xs, x.length ≤ 65535) (hn : xs.length ≤ 1000) (h256 : (allU S.its xs).length ≤ 256) (h0 : newU S.its xs ≠ []) (hmj : S.mj ≤ 1000) (hlen : (batU (newU S.its xs)).length ≤ 65535) (er : Bool) (dd' : Dk) (he : S.dd.add (recP (batU (newU S.its xs))) = (er, dd')) :
    Calls Tryz.prog 57 #[.pointer (some ⟨l, 0, none⟩), vi] w fun e w' => ∃ vr en, e = .returned (.tuple #[vr, .int .i64 en]) ∧ en = (if er then 0 else 13) ∧ (if er then RowI w' w.heap.size vr (nsU S.its xs) else vr = .slice none 0 0) ∧ ∃ f', Lg w0 w' l pd pk { S with dd := dd', mj := S.mj + 1, its := if er then allU S.its xs else S.its } f' ∧ LSt w f w' f' ∧ ∀ k, vr.ownBlock = some k → ¬ f'.tot k := by
  have HNu := hide (numbered_any h vi li xs hxs hL hl hn)
  have hB : ∀ x ∈ xs, Bs x := fun x hx => by
    obtain ⟨y, hy, rfl⟩ := List.mem_map.1 (hxs ▸ hx)
    exact hL.bs y hy
  have hNB : ∀ x ∈ newU S.its xs, Bs x ∧ x.length ≤ 65535 := fun x hx => by
    have := (newU_mem h.nd hx).1
    exact ⟨hB x this, hl x this⟩
  have HNB := hide hNB
  have HH := hide h
  have hll := allU_len S.its xs
  have HAl := hide (allU_new S.its xs)
  have HND : Hid ((S.its ++ newU S.its xs).Nodup) := by rw [← allU_new]; exact allU_nodup h.nd
  obtain ⟨fr, hfr⟩ : ∃ fr, fr = newU S.its xs := ⟨_, rfl⟩
  rw [← hfr] at HNu HNB h0 hlen he HAl HND hll
  obtain ⟨a, ha⟩ : ∃ a, a = S.its.length := ⟨_, rfl⟩
  obtain ⟨b, hb⟩ : ∃ b, b = fr.length := ⟨_, rfl⟩
  have hab : a + b ≤ 256 := by omega
  have hab2 : ¬ (256 : Int) < (a : Int) + (b : Int) := by omega
  have hab3 : decide ((256 : Int) < (a : Int) + (b : Int)) = false := decide_eq_false hab2
  have hw : IntKind.i64.wrap ((a : Int) + (b : Int)) = (a : Int) + (b : Int) := by simp [IntKind.wrap, IntKind.signed, IntKind.bits]; omega
  have HE := hide he
  have HA := hide ha
  have HBB := hide hb
  have H0 := hide h0
  have HLen := hide hlen
  have HMJ := hide hmj
  clear h hB hNB hL hl hn hxs he ha hb h0 hlen hmj hll h256 hfr
  go_enter Tryz.func57, Tryz.ntmps57
  go_wp2_with fail
  refine HNu.out.mono ?_
  rintro ee w1 ⟨ao, m, c, s2, rfl, R1, K1, F, Sh1, hF⟩
  have HR1 := hide R1
  have HK1 := hide K1
  have HSh := hide Sh1
  have HF := hide hF
  have HL1 := hide (HH.out.on K1)
  have HZ := hide (usize_any HL1.out a (by rw [HA.out]))
  clear R1 K1 Sh1 hF HNu
  go_wp2_with fail
  refine HZ.out.mono ?_
  rintro ee w2 ⟨rfl, hw2⟩
  subst w2
  have HZ2 := hide (ssize_any HSh.out b (by rw [HBB.out]))
  clear HZ
  go_wp2_with fail
  refine HZ2.out.mono ?_
  rintro ee w2 ⟨rfl, hw2⟩
  subst w2
  clear HZ2
  obtain ⟨v2, b2, hSc, hRU, -, -, -, hoF, -⟩ := HSh.out.ex
  obtain ⟨a2, c2, hv2⟩ := hRU.shape
  have hc0 := hSc.c0
  obtain ⟨en, hen⟩ : ∃ en : Int, en = if er then 0 else 13 := ⟨_, rfl⟩
  have HKp := hide (ukeep_any HL1.out v2 fr H0.out (fun w' F' t => by
    obtain ⟨T, hT, k⟩ := t.kp
    exact hRU.kept k (fun i hi hm => by
      have h1 := (HH.out.lt i (hT i hm)).2
      have h2 := (HF.out i (hoF i hi).1).1
      omega)) HNB.out HND.out (by rw [List.length_append]; have := HA.out; have := HBB.out; omega) HMJ.out HLen.out er dd' HE.out en hen)
  have HEn := hide hen
  rw [← HBB.out] at hv2
  subst hv2
  clear hRU hoF hSc hen
  go_wp2_with fail
  refine HKp.out.mono ?_
  rintro ee w3 ⟨rfl, f', L3, T3⟩
  have HL3 := hide L3
  have HT3 := hide T3
  clear L3 T3 HKp
  have HTT : Hid (LSt w f w3 f') := (Stp.mid HK1.out).trans HT3.out
  cases er
  · obtain rfl : en = 13 := by rw [HEn.out]; rfl
    go_wp2_with fail
    go_ret2
    exact ⟨_, 13, rfl, rfl, rfl, f', HL3.out, HTT.out, fun k hk => by cases hk⟩
  · obtain rfl : en = 0 := by rw [HEn.out]; rfl
    go_wp2_with fail
    go_ret2
    refine ⟨_, 0, rfl, rfl, ?_, f', ?_, HTT.out, fun k hk hf => ?_⟩
    · obtain ⟨T, hT, k⟩ := HT3.out.kp
      exact HR1.out.kept k (fun i hi hm => by
        have h1 := (HH.out.lt i (hT i hm)).2
        have h2 := (HR1.out.lt hi).1
        omega)
    · have := HL3.out
      simp only [if_true] at this ⊢
      rw [HAl.out]; exact this
    · have h2 := HR1.out.lt hk
      rcases HT3.out.2 k hf with h1 | h1
      · have := (HH.out.lt k h1).2; omega
      · omega
end
end Go.Proofs.YteabdojjllfcpaaGreat

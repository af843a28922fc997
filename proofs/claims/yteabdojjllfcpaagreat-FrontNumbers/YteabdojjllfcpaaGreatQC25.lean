/-
  The laws of ledger: the reference's Batch, items.
-/
import Derived.Test.YteabdojjllfcpaaGreatQC20
import Derived.Test.YteabdojjllfcpaaGreatQC24
import Derived.Test.YteabdojjllfcpaaGreatQC17
namespace Go.Proofs.YteabdojjllfcpaaGreat
open Go.RowKit
open Go.Proofs
set_option linter.unusedVariables false
theorem RowsQ.off {w w' : World} {base : Nat} {v : Value} {l : List (Value × List Int)} {S : List Nat} (h : RowsQ w base v l) (k : Kp S w w') (hS : ∀ i ∈ S, i < base ∨ w.heap.size ≤ i) : RowsQ w' base v l :=
  h.kept (k.less (T := S.filter (fun i => decide (i < base))) (fun i hi hl => List.mem_filter.2 ⟨hi, decide_eq_true ((hS i hi).resolve_right (by omega))⟩)) (fun i hi => of_decide_eq_true (List.mem_filter.1 hi).2)
theorem RowsQ.lists {w : World} {base : Nat} {v : Value} {l : List (Value × List Int)} (h : RowsQ w base v l) (hl : l.length ≤ 1000000) : Lists w v l := lists_big h.1 hl
theorem RowsQ.rebase {w : World} {base b : Nat} {v : Value} {l : List (Value × List Int)} (h : RowsQ w base v l) (hb : b ≤ base) : RowsQ w b v l :=
  ⟨⟨owns_rebase h.1.1 (fun i hi => Nat.le_trans hb (h.1.1.own i hi)), h.1.2⟩, fun x hx i hi => Nat.le_trans hb (h.2 x hx i hi)⟩
theorem rowsQ_nil (w : World) (base : Nat) : RowsQ w base (.slice none 0 0) [] := ⟨⟨World.ownsRow_nil _ _ _ _, by simp⟩, by simp⟩
end Go.Proofs.YteabdojjllfcpaaGreat

/-
  A ledger's disks, asked while it is open; two disks whatever they are.
-/
namespace Go.Proofs.YteabdojjllfcpaaGreat
open Go.RowKit
open Go.Proofs
set_option linter.unusedVariables false
section
variable {w0 w : World} {l pd pk : Nat} {S : LS} {f : Fps}
/-- both disks, when the ledger is left. -/
structure Ds (w0 w : World) (pd pk : Nat) (dd dk : Dk) (f : Fps) : Prop where
  ok : f.Ok w0 w
  d : Dx w0 w pd dd (f 5)
  k : Dx w0 w pk dk (f 6)
theorem Lg.ds (h : Lg w0 w l pd pk S f) : Ds w0 w pd pk S.dd S.dk f := by
  obtain ⟨j, s, q, vs, pv, hx⟩ := h
  exact ⟨hx.ok, hx.jx.dx, hx.bf.dx⟩
theorem Ds.on {w' : World} {dd dk : Dk} (h : Ds w0 w pd pk dd dk f) (k : Kp [] w w') : Ds w0 w' pd pk dd dk f := ⟨h.ok.on k, h.d.kept k (h.ok.kp.trans k) (by simp), h.k.kept k (h.ok.kp.trans k) (by simp)⟩
end
theorem RowI.at {w : World} {base m c : Nat} {ao : Option Addr} {l : List Int} (h : RowI w base (.slice ao m c) l) (i : Nat) (hi : i < l.length) : ∃ g, ao = some ⟨g, 0, none⟩ ∧ w.cell? ⟨g, i, none⟩ = some (.int .i64 l[i]) := by
  rcases h.2 with ⟨e, h0⟩ | ⟨g, cap, cur, e, _⟩
  · omega
  · injection e with e1 e2 e3
    subst e1
    have := h.cells (g := g) rfl i (.int .i64 l[i]) (by simp [List.getElem?_eq_getElem hi])
    exact ⟨g, rfl, by simpa [Addr.add_lit] using this⟩
end Go.Proofs.YteabdojjllfcpaaGreat

/-
  A front in memory: its block, its receipts, its journal and disk, its queue; how it is kept.
-/
namespace Go.Proofs.YteabdojjllfcpaaGreat
open Go.RowKit
open Go.Proofs
set_option linter.unusedVariables false
/-- what a front is: room, size, wait, what waits, the receipts, its disk, a bound of its journal's count. -/
structure FS where
  room : Int
  size : Int
  wait : Int
  ms : List It
  rc : List (List Int)
  d : Dk
  m : Nat
def FS.q (S : FS) : Qd := ⟨S.room, S.size, S.wait, S.ms⟩
/-- a queue in the blocks F. -/
def Qf (w0 w : World) (p : Nat) (q : Qd) (F : Nat → Prop) : Prop := ∃ v, Qm w w0.heap.size p v q ∧ w0.heap.size ≤ p ∧ ∀ i ∈ dfp p v, F i
section
variable {w0 w w' : World} {p : Nat} {q q' : Qd} {F : Nat → Prop}
theorem Qf.kept {S : List Nat} (h : Qf w0 w p q F) (t : Kp S w w') (hS : ∀ i ∈ S, ¬ F i) : Qf w0 w' p q F := by
  obtain ⟨v, h1, h0, h2⟩ := h
  exact ⟨v, h1.kept t (fun i hi hm => hS i hm (h2 i hi)), h0, h2⟩
theorem Qf.fit (h : Qf w0 w p q F) : q.Fit := by
  obtain ⟨v, h, -⟩ := h
  exact h.fit
theorem Qf.stepQ {v v' : Value} (hF : ∀ i ∈ dfp p v, F i) (h0 : w0.heap.size ≤ p) (g : Qm w' w0.heap.size p v' q') (t : DSt p w v w' v') : ∃ F', Qf w0 w' p q' F' ∧ Stp F w w' F' :=
  ⟨grF F v', ⟨v', g, h0, grF_fp (hF p (mem_dfp.2 (.inl rfl)))⟩, t.stp hF (fun i hi => g.row.lt hi)⟩
theorem qf_len (h : Qf w0 w p q F) (n : Nat) (hn : n = q.ms.length) : Calls Tryz.prog 47 #[.pointer (some ⟨p, 0, none⟩)] w fun e w' => e = .returned (.int .i64 (n : Nat)) ∧ w' = w := by
  obtain ⟨v, g, -⟩ := h
  exact blen_any _ p v q w g n hn
theorem qf_due (h : Qf w0 w p q F) (now : Int) (h0 : -9223372036854775808 ≤ now) (h1 : now ≤ 9223372036854775807) (bo : Bool) (hbo : bo = q.due now) :
    Calls Tryz.prog 55 #[.pointer (some ⟨p, 0, none⟩), .int .i64 now] w fun e w' => e = .returned (.bool bo) ∧ Kp [] w w' := by
  obtain ⟨v, g, -⟩ := h
  exact bdue_any _ p v q now w g h0 h1 bo hbo
theorem qf_has (h : Qf w0 w p q F) {vb : Value} {bs : List Int} (hS : Sl w vb bs) (hB : Bs bs) (r : Bool) (hr : r = q.ms.any (sameI bs)) :
    Calls Tryz.prog 59 #[.pointer (some ⟨p, 0, none⟩), vb] w fun x w' => x = .returned (.bool r) ∧ Kp [] w w' := by
  obtain ⟨v, g, -⟩ := h
  exact bhas_any _ p v vb q bs w g hS hB r hr
theorem qf_put (h : Qf w0 w p q F) (kw : w0.heap.size ≤ w.heap.size) {vb : Value} {b : List Int} (now : Int) (hf : (q.ms.length : Int) < q.room) (hS : Sl w vb b) (hB : Bs b) (hl : b.length ≤ 1000) (h0 : -9223372036854775808 ≤ now) (h1 : now ≤ 9223372036854775807) (q' : Qd) (hq : q' = { q with ms := q.ms ++ [⟨b, now⟩] }) :
    Calls Tryz.prog 61 #[.pointer (some ⟨p, 0, none⟩), vb, .int .i64 now] w fun e w' => e = .returned (.int .i64 0) ∧ ∃ F', Qf w0 w' p q' F' ∧ Stp F w w' F' := by
  obtain ⟨v, g, hp, hF⟩ := h
  subst hq
  refine (bput_any _ p v vb q b now w g hf hS hB hl h0 h1 kw).mono ?_
  rintro e w' ⟨rfl, v', Q, D⟩
  exact ⟨rfl, Qf.stepQ hF hp Q D⟩
theorem qf_take (h : Qf w0 w p q F) (k : Nat) (hk : k = min q.size.toNat q.ms.length) (q' : Qd) (hq : q' = { q with ms := q.ms.drop k }) :
    Calls Tryz.prog 56 #[.pointer (some ⟨p, 0, none⟩)] w fun e w' => ∃ ao c, e = .returned (.slice ao k c) ∧ Tl w.heap.size w' (.slice ao k c) ((q.ms.take k).map It.bs) ∧ ∃ F', Qf w0 w' p q' F' ∧ Stp F w w' F' := by
  obtain ⟨v, g, hp, hF⟩ := h
  subst hq
  refine (btake_any _ p v q w g k hk).mono ?_
  rintro e w' ⟨ao, m, c, v', rfl, T, Q, D⟩
  have hm : m = k := by
    obtain ⟨_, _, e⟩ := T.shape
    injection e with _ e2 _
    rw [e2]; simp; omega
  subst hm
  exact ⟨ao, c, rfl, T, Qf.stepQ hF hp Q D⟩
theorem qf_back (h : Qf w0 w p q F) (kw : w0.heap.size ≤ w.heap.size) {vi : Value} (li : List (Value × List Int)) (hL : Lists w vi li) (hli : ∀ x ∈ li, x.2.length ≤ 1000) (hn : q.ms.length + li.length ≤ 1000) (q' : Qd) (hq : q' = { q with ms := (li.map (fun x => evr x.2)) ++ q.ms }) :
    Calls Tryz.prog 40 #[.pointer (some ⟨p, 0, none⟩), vi] w fun e w' => e = .returned (.tuple #[]) ∧ ∃ F', Qf w0 w' p q' F' ∧ Stp F w w' F' := by
  obtain ⟨v, g, hp, hF⟩ := h
  subst hq
  refine (bback_any _ p v vi q li w g hL hli hn kw).mono ?_
  rintro e w' ⟨rfl, v', Q, D⟩
  exact ⟨rfl, Qf.stepQ hF hp Q D⟩
theorem qf_new (r s t : Int) (w : World) (h1 : 1 ≤ r) (h2 : r ≤ 16) (h3 : 1 ≤ s) (h4 : s ≤ 8) (h5 : 0 ≤ t) (h6 : t ≤ 1000) :
    Calls Tryz.prog 38 #[.int .i64 r, .int .i64 s, .int .i64 t] w fun e w' => ∃ p, e = .returned (.tuple #[.pointer (some ⟨p, 0, none⟩), .int .i64 0]) ∧ Kp [] w w' ∧ w.heap.size ≤ p ∧ p < w'.heap.size ∧ ∀ w0, w0.heap.size ≤ w.heap.size → Qf w0 w' p ⟨r, s, t, []⟩ (fun i => i = p) := by
  refine (bnew_any r s t w h1 h2 h3 h4 h5 h6).mono ?_
  rintro e w' ⟨p, rfl, Q, K, hp⟩
  refine ⟨p, rfl, K, hp, (Q 0).here.lt, fun w0 h0 => ⟨_, Q _, by omega, fun i hi => ?_⟩⟩
  rcases mem_dfp.1 hi with rfl | hi
  · rfl
  · cases hi
end
/-- The front at p, its ledger at l, its disk at pd: its journal at j, its queue at q, the row vr of its receipts. 1 its block, 2 its receipts, 3 journal and disk, 4 the queue. -/
structure FgX (w0 w : World) (p l pd : Nat) (S : FS) (g : Fps) (j q : Nat) (vr : Value) : Prop where
  ok : g.Ok w0 w
  at_ : Fv 93 w p (.pointer (some ⟨l, 0, none⟩)) (.pointer (some ⟨j, 0, none⟩)) (.pointer (some ⟨q, 0, none⟩)) (.int .i64 S.room) vr
  f1 : g 1 p
  rr : RowU w w0.heap.size vr S.rc
  f2 : ∀ k, vr.ownBlock = some k → g 2 k
  jx : Jx w0 w pd S.d j S.m (g 3)
  qf : Qf w0 w q S.q (g 4)
  rb : ∀ x ∈ S.rc, Bs x ∧ x.length ≤ 1000
def Fg (w0 w : World) (p l pd : Nat) (S : FS) (g : Fps) : Prop := ∃ j q vr, FgX w0 w p l pd S g j q vr
section
variable {w0 w w' : World} {p l pd j q : Nat} {S : FS} {g : Fps} {vr : Value}
/-- what lies elsewhere is written. -/
theorem FgX.beside (h : FgX w0 w p l pd S g j q vr) {T : List Nat} (k : Kp T w w') (hT : ∀ i ∈ T, w0.heap.size ≤ i ∧ ¬ g.tot i) : FgX w0 w' p l pd S g j q vr := by
  have k0 : Kp [] w0 w' := h.ok.kp.then k (fun i hi => .inr (hT i hi).1)
  have no : ∀ a, ∀ i ∈ T, ¬ g a i := fun a i hi ha => (hT i hi).2 ⟨a, ha⟩
  exact ⟨⟨k0, h.ok.ap, fun a i hi => ⟨(h.ok.rng a i hi).1, Nat.lt_of_lt_of_le (h.ok.rng a i hi).2 k.size⟩⟩, h.at_.kept k (fun hm => no 1 _ hm h.f1), h.f1, h.rr.kept k (fun i hi hm => no 2 i hm (h.f2 i hi)), h.f2, h.jx.kept k k0 (no 3), h.qf.kept k (no 4), h.rb⟩
theorem FgX.on (h : FgX w0 w p l pd S g j q vr) (k : Kp [] w w') : FgX w0 w' p l pd S g j q vr := h.beside k (by simp)
/-- the journal takes a step. -/
theorem FgX.stepJ {F' : Nat → Prop} {d' : Dk} {m' : Nat} (h : FgX w0 w p l pd S g j q vr) (t : Stp (g 3) w w' F') (x : Jx w0 w' pd d' j m' F') : FgX w0 w' p l pd { S with d := d', m := m' } (g.upd 3 F') j q vr := by
  obtain ⟨T, hT, k⟩ := t.kp
  have o := h.ok.upd t
  have no : ∀ b, 3 ≠ b → ∀ i ∈ T, ¬ g b i := fun b hb => h.ok.apart hb hT
  refine ⟨o, h.at_.kept k (fun hm => no 1 (by decide) _ hm h.f1), ?_, h.rr.kept k (fun i hi hm => no 2 (by decide) i hm (h.f2 i hi)), ?_, ?_, ?_, h.rb⟩
  · rw [upd_ne (by decide)]; exact h.f1
  · rw [upd_ne (by decide)]; exact h.f2
  · rw [upd_eq]; exact x
  · rw [upd_ne (by decide)]; exact h.qf.kept k (no 4 (by decide))
/-- the queue takes a step. -/
theorem FgX.stepQ {F' : Nat → Prop} {ms' : List It} (h : FgX w0 w p l pd S g j q vr) (t : Stp (g 4) w w' F') (x : Qf w0 w' q ⟨S.room, S.size, S.wait, ms'⟩ F') : FgX w0 w' p l pd { S with ms := ms' } (g.upd 4 F') j q vr := by
  obtain ⟨T, hT, k⟩ := t.kp
  have o := h.ok.upd t
  have no : ∀ b, 4 ≠ b → ∀ i ∈ T, ¬ g b i := fun b hb => h.ok.apart hb hT
  refine ⟨o, h.at_.kept k (fun hm => no 1 (by decide) _ hm h.f1), ?_, h.rr.kept k (fun i hi hm => no 2 (by decide) i hm (h.f2 i hi)), ?_, ?_, ?_, h.rb⟩
  · rw [upd_ne (by decide)]; exact h.f1
  · rw [upd_ne (by decide)]; exact h.f2
  · rw [upd_ne (by decide)]; exact h.jx.kept k o.kp (no 3 (by decide))
  · rw [upd_eq]; exact x
/-- one receipt more. -/
theorem FgX.stepR {w1 : World} {v' : Value} {x : List Int} (h : FgX w0 w p l pd S g j q vr) (hR : RowU w1 w0.heap.size v' (S.rc ++ [x])) (hx : Bs x ∧ x.length ≤ 1000) (K : Kp vr.ownBlock.toList w w1) (hloc : ∀ k, v'.ownBlock = some k → vr.ownBlock = some k ∨ w.heap.size ≤ k) :
    FgX w0 (w1.setCell ⟨p, 4, none⟩ v') p l pd { S with rc := S.rc ++ [x] } (g.upd 2 (fun i => g 2 i ∨ v'.ownBlock = some i)) j q v' ∧ Stp g.tot w (w1.setCell ⟨p, 4, none⟩ v') (g.upd 2 (fun i => g 2 i ∨ v'.ownBlock = some i)).tot := by
  have k2 : ∀ i ∈ vr.ownBlock.toList, g 2 i := fun i hi => h.f2 i (by simpa [Option.mem_toList] using hi)
  have t2 : Stp (g 2) w w1 (fun i => g 2 i ∨ v'.ownBlock = some i) := ⟨⟨_, k2, K⟩, fun i hi => hi.elim .inl (fun h1 => (hloc i h1).elim (fun h2 => .inl (h.f2 i h2)) (fun h2 => .inr ⟨h2, (hR.lt h1).2⟩))⟩
  have o1 := h.ok.upd t2
  have hp := h.ok.rng 1 p h.f1
  have no1 : ∀ b, 1 ≠ b → ¬ g b p := fun b hb e => hb (h.ok.ap 1 b p h.f1 e)
  have nv : v'.ownBlock ≠ some p := fun e => (hloc p e).elim (fun h2 => no1 2 (by decide) (h.f2 p h2)) (fun h2 => by omega)
  have ks : Kp [p] w1 (w1.setCell ⟨p, 4, none⟩ v') := kp_set w1 p 4 _
  have hsz : (w1.setCell ⟨p, 4, none⟩ v').heap.size = w1.heap.size := by simp [World.setCell]
  have k0 : Kp [] w0 (w1.setCell ⟨p, 4, none⟩ v') := o1.kp.then ks (fun i hi => .inr (by simp at hi; omega))
  have noK : ∀ b, 2 ≠ b → ∀ i ∈ vr.ownBlock.toList, ¬ g b i := fun b hb => h.ok.apart hb k2
  have noS : ∀ b, 1 ≠ b → ∀ i ∈ [p], ¬ g b i := fun b hb i hi => by simp at hi; subst hi; exact no1 b hb
  refine ⟨⟨⟨k0, o1.ap, fun b i hi => by rw [hsz]; exact o1.rng b i hi⟩, (h.at_.kept K (fun hm => noK 1 (by decide) _ hm h.f1)).s4 v', ?_, hR.kept ks (fun i hi hm => nv (by simp at hm; rw [← hm]; exact hi)), ?_, ?_, ?_, ?_⟩, ⟨vr.ownBlock.toList ++ [p], fun i hi => ?_, K.comp ks⟩, fun i ⟨b, hb⟩ => ?_⟩
  · rw [upd_ne (by decide)]; exact h.f1
  · rw [upd_eq]; exact fun k hk => .inr hk
  · rw [upd_ne (by decide)]; exact (h.jx.kept K o1.kp (noK 3 (by decide))).kept ks k0 (noS 3 (by decide))
  · rw [upd_ne (by decide)]; exact (h.qf.kept K (noK 4 (by decide))).kept ks (noS 4 (by decide))
  · intro y hy
    rcases List.mem_append.1 hy with hy | hy
    · exact h.rb y hy
    · obtain rfl : y = x := by simpa using hy
      exact hx
  · rcases List.mem_append.1 hi with hi | hi
    · exact ⟨2, k2 i hi⟩
    · simp at hi; subst hi; exact ⟨1, h.f1⟩
  · rcases hb with ⟨rfl, hb⟩ | ⟨_, hb⟩
    · rcases hb with hb | hb
      · exact .inl ⟨2, hb⟩
      · rcases hloc i hb with h2 | h2
        · exact .inl ⟨2, h.f2 i h2⟩
        · exact .inr ⟨h2, by rw [hsz]; exact (hR.lt hb).2⟩
    · exact .inl ⟨b, hb⟩
theorem Fg.on (h : Fg w0 w p l pd S g) (k : Kp [] w w') : Fg w0 w' p l pd S g := by
  obtain ⟨j, q, vr, h⟩ := h
  exact ⟨j, q, vr, h.on k⟩
theorem Fg.beside (h : Fg w0 w p l pd S g) {T : List Nat} (k : Kp T w w') (hT : ∀ i ∈ T, w0.heap.size ≤ i ∧ ¬ g.tot i) : Fg w0 w' p l pd S g := by
  obtain ⟨j, q, vr, h⟩ := h
  exact ⟨j, q, vr, h.beside k hT⟩
theorem Fg.kp (h : Fg w0 w p l pd S g) : Kp [] w0 w := by
  obtain ⟨j, q, vr, h⟩ := h
  exact h.ok.kp
theorem Fg.lt (h : Fg w0 w p l pd S g) : ∀ i, g.tot i → w0.heap.size ≤ i ∧ i < w.heap.size := fun i ⟨a, ha⟩ => by
  obtain ⟨j, q, vr, h⟩ := h
  exact h.ok.rng a i ha
theorem Fg.fit (h : Fg w0 w p l pd S g) : S.q.Fit := by
  obtain ⟨j, q, vr, h⟩ := h
  exact h.qf.fit
theorem Fg.rb (h : Fg w0 w p l pd S g) : ∀ x ∈ S.rc, Bs x ∧ x.length ≤ 1000 := by
  obtain ⟨j, q, vr, h⟩ := h
  exact h.rb
end
/-- both beside each other: the front and its ledger. -/
structure Bo (w0 w : World) (p l pd pl pk : Nat) (S : FS) (L : LS) (g f : Fps) : Prop where
  fr : Fg w0 w p l pd S g
  lg : Lg w0 w l pl pk L f
  ap : ∀ i, g.tot i → ¬ f.tot i
def two2 (g f : Fps) : Nat → Prop := fun i => g.tot i ∨ f.tot i
section
variable {w0 w w' : World} {p l pd pl pk : Nat} {S S' : FS} {L L' : LS} {g g' f f' : Fps}
theorem Bo.kp (h : Bo w0 w p l pd pl pk S L g f) : Kp [] w0 w := h.fr.kp
theorem Bo.on (h : Bo w0 w p l pd pl pk S L g f) (k : Kp [] w w') : Bo w0 w' p l pd pl pk S L g f := ⟨h.fr.on k, h.lg.on k, h.ap⟩
theorem Bo.lt (h : Bo w0 w p l pd pl pk S L g f) : ∀ i, two2 g f i → w0.heap.size ≤ i ∧ i < w.heap.size := fun i hi => hi.elim (h.fr.lt i) (h.lg.lt i)
theorem Bo.beside (h : Bo w0 w p l pd pl pk S L g f) {T : List Nat} (k : Kp T w w') (hT : ∀ i ∈ T, w0.heap.size ≤ i ∧ ¬ two2 g f i) : Bo w0 w' p l pd pl pk S L g f :=
  ⟨h.fr.beside k (fun i hi => ⟨(hT i hi).1, fun e => (hT i hi).2 (.inl e)⟩), h.lg.beside k (fun i hi => ⟨(hT i hi).1, fun e => (hT i hi).2 (.inr e)⟩), h.ap⟩
/-- the front takes a step. -/
theorem Bo.stepF (h : Bo w0 w p l pd pl pk S L g f) (F' : Fg w0 w' p l pd S' g') (t : Stp g.tot w w' g'.tot) : Bo w0 w' p l pd pl pk S' L g' f ∧ Stp (two2 g f) w w' (two2 g' f) := by
  obtain ⟨⟨T, hT, k⟩, h2⟩ := t
  refine ⟨⟨F', h.lg.beside k (fun i hi => ⟨(h.fr.lt i (hT i hi)).1, h.ap i (hT i hi)⟩), fun i hi hf => ?_⟩, ⟨T, fun i hi => .inl (hT i hi), k⟩, fun i hi => ?_⟩
  · rcases h2 i hi with h1 | h1
    · exact h.ap i h1 hf
    · have := (h.lg.lt i hf).2; omega
  · rcases hi with hi | hi
    · exact (h2 i hi).imp .inl id
    · exact .inl (.inr hi)
/-- the ledger takes a step. -/
theorem Bo.stepL (h : Bo w0 w p l pd pl pk S L g f) (F' : Lg w0 w' l pl pk L' f') (t : Stp f.tot w w' f'.tot) : Bo w0 w' p l pd pl pk S L' g f' ∧ Stp (two2 g f) w w' (two2 g f') := by
  obtain ⟨⟨T, hT, k⟩, h2⟩ := t
  refine ⟨⟨h.fr.beside k (fun i hi => ⟨(h.lg.lt i (hT i hi)).1, fun e => h.ap i e (hT i hi)⟩), F', fun i hi hf => ?_⟩, ⟨T, fun i hi => .inr (hT i hi), k⟩, fun i hi => ?_⟩
  · rcases h2 i hf with h1 | h1
    · exact h.ap i hi h1
    · have := (h.fr.lt i hi).2; omega
  · rcases hi with hi | hi
    · exact .inl (.inl hi)
    · exact (h2 i hi).imp .inr id
end
end Go.Proofs.YteabdojjllfcpaaGreat

/-
  Rows of strings: append of one string from a block of its own.
-/
namespace Go.Proofs.YteabdojjllfcpaaGreat
open Go.RowKit
open Go.Proofs
set_option linter.unusedVariables false
theorem run_appU (ty : TypeId) (base : Nat) (v : Value) (l : List (List Int)) (w : World) (h : RowU w base v l) (a : Addr) (c : Nat) (x : List Int) (hx : w.cell? (a.add 0) = some (.string (strOfNums x))) (hb : l.length ≤ 1000000) (hbase : base ≤ w.heap.size) :
    ∃ ao m c' w', (Builtin.append_ #[87, 87] ty #[v, .slice (some a) 1 c]).run Tryz.prog w = .ok (.slice ao m c') w' ∧ RowU w' base (.slice ao m c') (l ++ [x]) ∧ RStep w v w' (.slice ao m c') := by
  obtain ⟨i0, hi0, hz0, hz1, hz2⟩ := info_parts Tryz.infoStr
  obtain ⟨v', w1, hr, hown1, hgrow, _, hat⟩ := run_append_own_at (P := Tryz.prog) w base 87 ty 9 i0 (.string ByteArray.empty) 1 16 Tryz.underlying87 hi0 hz0 hz1 hz2 rfl (by decide) v l.length (l.map sv) h a 1 c [.string (strOfNums x)] rfl (fun j u hu => by
    match j, hu with
    | 0, hu =>
      simp at hu
      rw [hx, hu]
    | j + 1, hu => simp at hu) (by simp [Value.oneCell']) (by unfold maxLen; omega) (by omega) hbase
  have hR : RowU w1 base v' (l ++ [x]) := by
    unfold RowU
    rw [List.length_append, List.map_append]
    exact hown1
  obtain ⟨ao, c', rfl⟩ := hR.shape
  refine ⟨ao, _, c', w1, hr, hR, (Kp.refl _ _).grown hgrow (fun k hk => .inl (by simp [hk])), fun k hk => ?_⟩
  rcases hat with e | e
  · exact .inl (e ▸ hk)
  · rw [e] at hk
    injection hk with hk
    exact .inr (by omega)
theorem step_appU {w : World} {ops : Array Oper} {o : Oper} {a : Act} {K : Act → World → Prop} {Q : Exit → Act → World → Prop} {E : Prop} (hgd : o.guard = none) (s x : Operand)
    (ho : o.op = .call { callee := .builtin .append, args := #[s, x], argTypes := #[87, 87] }) (base : Nat) (v : Value) (l : List (List Int)) (hs : a.eval s = v) (hr : RowU w base v l) (g c : Nat) (y : List Int) (hx : a.eval x = .slice (some ⟨g, 0, none⟩) 1 c) (hc : w.cell? ⟨g, 0, none⟩ = some (.string (strOfNums y))) (hb : l.length ≤ 1000000) (hbase : base ≤ w.heap.size)
    (h : ∀ ao m c w', RowU w' base (.slice ao m c) (l ++ [y]) → RStep w v w' (.slice ao m c) → K (a.put o.dst (.slice ao m c)) w') :
    if Region.wanted o (yielded ops a.tmps) = true then Oper.wp Tryz.prog o a w K Q else E := by
  have hw : Region.wanted o (yielded ops a.tmps) = true := by simp [Region.wanted, hgd]
  rw [if_pos hw]
  obtain ⟨ao, m, c', w1, hrun, h1, h2⟩ := run_appU o.type base v l w hr ⟨g, 0, none⟩ c y (by simpa [Addr.add_lit] using hc) hb hbase
  unfold Oper.wp execOp
  simp only [ho, resolve, invoke, builtin, Sem.run_bind, Sem.run_pure, Result.andThen_ok, List.map_toArray, List.map_cons, List.map_nil, hs, hx, hrun]
  exact h ao m c' w1 h1 h2
theorem wpList_appU {w : World} {ops : Array Oper} {rest : List Oper} {o : Oper} {a : Act} {Q : Exit → Act → World → Prop} (hgd : o.guard = none) (s x : Operand)
    (ho : o.op = .call { callee := .builtin .append, args := #[s, x], argTypes := #[87, 87] }) (base : Nat) (v : Value) (l : List (List Int)) (hs : a.eval s = v) (hr : RowU w base v l) (g c : Nat) (y : List Int) (hx : a.eval x = .slice (some ⟨g, 0, none⟩) 1 c) (hc : w.cell? ⟨g, 0, none⟩ = some (.string (strOfNums y))) (hb : l.length ≤ 1000000) (hbase : base ≤ w.heap.size)
    (h : ∀ ao m c w', RowU w' base (.slice ao m c) (l ++ [y]) → RStep w v w' (.slice ao m c) → wpList Tryz.prog ops Q rest (a.put o.dst (.slice ao m c)) w') : wpList Tryz.prog ops Q (o :: rest) a w := by
  refine wpList_plain hgd fun K hK => ?_
  obtain ⟨ao, m, c', w1, hrun, h1, h2⟩ := run_appU o.type base v l w hr ⟨g, 0, none⟩ c y (by simpa [Addr.add_lit] using hc) hb hbase
  unfold Oper.wp execOp
  simp only [ho, resolve, invoke, builtin, Sem.run_bind, Sem.run_pure, Result.andThen_ok, List.map_toArray, List.map_cons, List.map_nil, hs, hx, hrun]
  exact hK _ _ (h ao m c' w1 h1 h2)
set_option maxHeartbeats 1000000 in
/-- slices.Index of strings. -/
theorem sidx_any (base : Nat) (v : Value) (l : List (List Int)) (x : List Int) (w : World) (h : RowU w base v l) (hB : Bs x) (hb : ∀ y ∈ l, Bs y) (hl : l.length ≤ 1000000) (n : Int) (hn : n = if x ∈ l then (l.idxOf x : Int) else -1) :
    Calls Tryz.prog 97 #[v, .string (strOfNums x)] w fun e w' => e = .returned (.int .i64 n) ∧ w' = w := by
  obtain ⟨ao, c, rfl⟩ := h.shape
  obtain ⟨N, hN⟩ : ∃ N, N = l.length := ⟨_, rfl⟩
  have hcell : ∀ k (hk : k < l.length), ∃ g, ao = some ⟨g, 0, none⟩ ∧ w.cell? ⟨g, k, none⟩ = some (.string (strOfNums l[k])) := fun k hk => h.at k hk
  rw [← hN]
  have HC := hide hcell
  have HN := hide hN
  have HB := hide hB
  have HBB := hide hb
  have HNn := hide hn
  have hN6 : N ≤ 1000000 := by omega
  obtain ⟨X, hX⟩ : ∃ X, X = strOfNums x := ⟨_, rfl⟩
  rw [← hX]
  have HX := hide hX
  clear h hcell hN hB hb hn hX hl
  go_enter Tryz.func97, Tryz.ntmps97
  go_wp2_with fail
  go_loopw [8] (fun i wr => ∃ k : Nat, k ≤ N ∧ i = .int .i64 k ∧ wr = w ∧ Hid (x ∉ l.take k)) (fun i _ => N - (intOf i).toNat)
  case atStart => exact ⟨0, by omega, rfl, rfl, by simp [Hid]⟩
  case round =>
    obtain ⟨k, hk, rfl, rfl, hno⟩ := hrel
    by_cases hlt : k < N
    · have hlt' : (k : Int) < (N : Int) := by omega
      have hkl : k < l.length := by have := HN.out; omega
      obtain ⟨g, rfl, hc⟩ := HC.out k hkl
      have htk : l.take (k + 1) = l.take k ++ [l[k]] := List.take_succ_eq_append_getElem hkl
      obtain ⟨y, hy⟩ : ∃ y, y = l[k] := ⟨_, rfl⟩
      have hBy : Bs y := by rw [hy]; exact HBB.out _ (List.getElem_mem hkl)
      rw [← hy] at hc htk
      obtain ⟨Y, hY⟩ : ∃ Y, Y = strOfNums y := ⟨_, rfl⟩
      rw [← hY] at hc
      have hdec : (X.toList == Y.toList) = decide (x = y) := by
        rw [str_decB, HX.out, hY]
        exact decide_eq_decide.2 (str_eq_iff HB.out hBy)
      have HTK := hide htk
      have HY := hide hy
      by_cases hxy : x = y
      · rw [decide_eq_true hxy] at hdec
        have hn2 : n = (k : Int) := by
          have hmem : x ∈ l := by rw [hxy, hy]; exact List.getElem_mem hkl
          rw [HNn.out, if_pos hmem]
          have e : l = (l.take k ++ [y]) ++ l.drop (k + 1) := by rw [← htk, List.take_append_drop]
          have h1 : l.idxOf x = k := by
            conv => lhs; rw [e]
            rw [List.append_assoc, List.idxOf_append, if_neg hno.out, List.length_take, hxy]
            simp
            omega
          rw [h1]
        have HN2 := hide hn2
        clear htk hy hY hBy hn2 hno
        go_wp2_with fail
        go_ret
        exact ⟨by rw [HN2.out]; rfl, rfl⟩
      · rw [decide_eq_false hxy] at hdec
        have HXY := hide hxy
        clear htk hy hY hBy
        go_wp2_with fail
        go_roundw
        case rel => exact ⟨k + 1, by omega, by go_num, trivial, by
          show ¬ _
          rw [HTK.out]
          simp only [List.mem_append, List.mem_singleton]
          exact fun h => h.elim hno.out HXY.out⟩
        case measure => simp [intOf]; omega
    · have hkn : k = N := by omega
      have hnlt : ¬ (k : Int) < (N : Int) := by omega
      have hn2 : n = -1 := by
        rw [HNn.out, if_neg]
        have := hno.out
        rwa [List.take_of_length_le (by have := HN.out; omega)] at this
      have HN2 := hide hn2
      clear hkn hn2
      go_wp2_with fail
      go_ret
      exact ⟨by rw [HN2.out]; rfl, rfl⟩
end Go.Proofs.YteabdojjllfcpaaGreat

/-
  Arguments of the laws of ledger: slices of slices of numbers; rows of slices that lie aside.
-/
namespace Go.Proofs.YteabdojjllfcpaaGreat
open Go.RowKit
open Go.Proofs
open Go.Deep Go.ChangeShapes Go.WideShapes
set_option linter.unusedVariables false
theorem RowsQ.aside {w w' : World} {base : Nat} {v : Value} {l : List (Value × List Int)} {S : List Nat} (h : RowsQ w base v l) (k : Kp S w w') (h1 : ∀ i, v.ownBlock = some i → i ∉ S) (h2 : ∀ x ∈ l, ∀ i, x.1.ownBlock = some i → i ∉ S) : RowsQ w' base v l :=
  ⟨⟨h.1.1.kept k h1, fun x hx => ⟨(h.1.2 x hx).1.kept k (h2 x hx), (h.1.2 x hx).2⟩⟩, h.2⟩
theorem RowV.at {w : World} {base m c : Nat} {ao : Option Addr} {l : List Value} (h : RowV w base (.slice ao m c) l) (i : Nat) (hi : i < l.length) : ∃ g, ao = some ⟨g, 0, none⟩ ∧ w.cell? ⟨g, i, none⟩ = some l[i] := by
  rcases h.2 with ⟨e, h0⟩ | ⟨g, cap, cur, e, _⟩
  · omega
  · injection e with e1 e2 e3
    subst e1
    have := h.cells (g := g) rfl i l[i] (by simp [List.getElem?_eq_getElem hi])
    exact ⟨g, rfl, by simpa [Addr.add_lit] using this⟩
/-- a row of slices that lies beside the blocks F. -/
structure Al (w0 w : World) (F : Nat → Prop) (v : Value) (la : List (Value × List Int)) : Prop where
  row : RowsQ w w0.heap.size v la
  own : ∀ k, v.ownBlock = some k → k < w.heap.size ∧ ¬ F k
  its : ∀ x ∈ la, ∀ k, x.1.ownBlock = some k → k < w.heap.size ∧ ¬ F k
section
variable {w0 w w' : World} {F F' : Nat → Prop} {v v' : Value} {la : List (Value × List Int)}
theorem al_nil (w0 w : World) (F : Nat → Prop) : Al w0 w F (.slice none 0 0) [] := ⟨rowsQ_nil _ _, (fun k hk => by cases hk), (fun x hx => by cases hx)⟩
theorem Al.step (h : Al w0 w F v la) (t : Stp F w w' F') : Al w0 w' F' v la := by
  obtain ⟨S, hS, k⟩ := t.kp
  exact ⟨h.row.aside k (fun i hi hm => (h.own i hi).2 (hS i hm)) (fun x hx i hi hm => (h.its x hx i hi).2 (hS i hm)), fun i hi => ⟨Nat.lt_of_lt_of_le (h.own i hi).1 k.size, t.off (h.own i hi).1 (h.own i hi).2⟩, fun x hx i hi => ⟨Nat.lt_of_lt_of_le (h.its x hx i hi).1 k.size, t.off (h.its x hx i hi).1 (h.its x hx i hi).2⟩⟩
theorem Al.on (h : Al w0 w F v la) (k : Kp [] w w') : Al w0 w' F v la := h.step (Stp.mid k)
/-- one more. -/
theorem Al.put {x : Value × List Int} (h : Al w0 w F v la) (hF : ∀ i, F i → i < w.heap.size) (r : RowsQ w' w0.heap.size v' (la ++ [x])) (s : RStep w v w' v') (hx : ∀ k, x.1.ownBlock = some k → k < w.heap.size ∧ ¬ F k) : Al w0 w' F v' (la ++ [x]) := by
  have hs := s.1.size
  refine ⟨r, fun k hk => ⟨r.1.1.lt hk, ?_⟩, fun y hy k hk => ?_⟩
  · rcases s.2 k hk with h1 | h1
    · exact (h.own k h1).2
    · exact fun e => by have := hF k e; omega
  · rcases List.mem_append.1 hy with hy | hy
    · exact ⟨by have := (h.its y hy k hk).1; omega, (h.its y hy k hk).2⟩
    · obtain rfl : y = x := by simpa using hy
      exact ⟨by have := (hx k hk).1; omega, (hx k hk).2⟩
end
/-- a row of slices whose blocks lie between lo and hi. -/
structure Xs (w : World) (lo hi : Nat) (v : Value) (l : List (Value × List Int)) : Prop where
  row : RowsQ w lo v l
  own : ∀ k, v.ownBlock = some k → k < hi
  its : ∀ x ∈ l, ∀ k, x.1.ownBlock = some k → k < hi
theorem Xs.kept {w w' : World} {lo hi : Nat} {v : Value} {l : List (Value × List Int)} {S : List Nat} (h : Xs w lo hi v l) (k : Kp S w w') (hS : ∀ i ∈ S, i < lo ∨ hi ≤ i) : Xs w' lo hi v l :=
  ⟨h.row.aside k (fun i e hm => by have := h.own i e; have := h.row.1.1.own i e; have := hS i hm; omega) (fun x hx i e hm => by have := h.its x hx i e; have := h.row.2 x hx i e; have := hS i hm; omega), h.own, h.its⟩
/-- append of a slice that lies anywhere else. -/
theorem wpList_rowsR {base : Nat} {w2 : World} {ops : Array Oper} {rest : List Oper} {o : Oper} {a : Act} {Q : Exit → Act → World → Prop} (hgd : o.guard = none) (s x : Operand)
    (ho : o.op = .call { callee := .builtin .append, args := #[s, x], argTypes := #[47, 47] }) (v : Value) (l : List (Value × List Int)) (hs : a.eval s = v) (hP : RowsQ w2 base v l) (hbase : base ≤ w2.heap.size) (hl : l.length ≤ 1000000)
    (vx : Value) (bs : List Int) (hr : Sl w2 vx bs) (hap : ∀ i, vx.ownBlock = some i → v.ownBlock ≠ some i) (hnb : ∀ i, vx.ownBlock = some i → base ≤ i) (hb : Bs bs) (hx : a.eval x = .slice (some ⟨w2.heap.size, 0, none⟩) 1 1)
    (h : ∀ ao m c w', m = l.length + 1 → RowsQ w' base (.slice ao m c) (l ++ [(vx, bs)]) → RStep w2 v w' (.slice ao m c) → wpList Tryz.prog ops Q rest (a.put o.dst (.slice ao m c)) w') : wpList Tryz.prog ops Q (o :: rest) a (w2.alloc (.cells #[vx] 28)) := by
  have k2 : Kp [] w2 (w2.alloc (.cells #[vx] 28)) := (Kp.refl [] w2).alloc _
  have hP2 := hP.1.kept k2
  obtain ⟨ax, cx, hvx, -⟩ := id hr
  refine wpList_append_rowv hgd s x ho base v (l.map (·.1)) hs hP2.1 ⟨w2.heap.size, 0, none⟩ 1 [vx] hx ?_ ?_ ?_ ?_ ?_
  · intro j u hu
    exact World.news_of_block (heap_alloc_new w2 _) j u (by simpa using hu)
  · simp [hvx, Value.oneCell']
  · simp; omega
  · simp; omega
  · intro ao m c w' r st
    have hml := r.len
    refine h ao m c w' (by rw [hml]; simp) ⟨hP2.snocJ (x := (vx, bs)) (hr.kept k2 (by simp)) hb (fun i h1 h2 => absurd h2 (hap i h1)) r st, fun y hy => ?_⟩ ⟨(k2.mono (by simp)).trans st.1, fun k hk => (st.2 k hk).imp id (fun h => Nat.le_trans k2.size h)⟩
    · rcases List.mem_append.1 hy with hy | hy
      · exact hP.2 y hy
      · obtain rfl : y = (vx, bs) := by simpa using hy
        exact hnb
end Go.Proofs.YteabdojjllfcpaaGreat

/-
  The contracts of package front: texts, lacking.
-/
namespace Go.Proofs.YteabdojjllfcpaaGreat
open Go.RowKit
open Go.Proofs
set_option linter.unusedVariables false
set_option maxRecDepth 100000 in
set_option maxHeartbeats 4000000 in
theorem ftexts_any (v : Value) (lv : List (Value × List Int)) (rs : List (List Int)) (hrs : lv.map (·.2) = rs) (w : World) (hL : Lists w v lv) (hB : ∀ r ∈ rs, Bs r) (hl : ∀ r ∈ rs, r.length ≤ 1000000) (hn : rs.length ≤ 1000000) (ok : Bool) (hok : ok = rs.all okM) :
    Calls Tryz.prog 39 #[v] w fun e w' => ∃ u, e = .returned (.tuple #[u, .bool ok]) ∧ Kp [] w w' ∧ (ok = true → RowU w' w.heap.size u rs) := by
  obtain ⟨al, cl, rfl, -, hcell⟩ := hL
  obtain ⟨N, hN⟩ : ∃ N, N = lv.length := ⟨_, rfl⟩
  have hNr : rs.length = N := by rw [← hrs, hN]; simp
  have hget : ∀ k (hk : k < N), ∃ (hk2 : k < rs.length), ∃ b off, al = some ⟨b, off, none⟩ ∧ ∃ u, w.cell? ⟨b, off + k, none⟩ = some u ∧ Sl w u rs[k] := fun k hk => by
    have hk1 : k < lv.length := by omega
    obtain ⟨b, off, e, h1, h2, h3⟩ := hcell k hk1
    have hk2 : k < rs.length := by omega
    have e2 : rs[k] = lv[k].2 := by simp [← hrs]
    exact ⟨hk2, b, off, e, lv[k].1, h1, by rw [e2]; exact h2⟩
  rw [← hN]
  have HGet := hide hget
  have HB := hide hB
  have HL := hide hl
  have HOk := hide hok
  have HNr := hide hNr
  have hN6 : N ≤ 1000000 := by omega
  clear hcell hget hB hrs hN hn hl hok hNr
  go_enter Tryz.func39, Tryz.ntmps39
  go_wp2_with fail
  go_loopw [4, 11] (fun o i wr => ∃ k : Nat, k ≤ N ∧ i = .int .i64 k ∧ (∃ ao m c, o = .slice ao m c) ∧ RowU wr w.heap.size o (rs.take k) ∧ Hid ((rs.take k).all okM = true) ∧ Kp [] w wr) (fun _ i _ => N - (intOf i).toNat)
  case atStart => exact ⟨0, by omega, rfl, ⟨_, _, _, rfl⟩, World.ownsRow_nil _ _ _ _, by simp [Hid], Kp.refl _ _⟩
  case round =>
    obtain ⟨k, hk, rfl, ⟨ao, m, c, rfl⟩, R, hall, K⟩ := hrel
    have HR := hide R
    have HK := hide K
    clear R
    by_cases hlt : k < N
    · have hlt' : (k : Int) < (N : Int) := by omega
      obtain ⟨hkx, b, off, rfl, u, hu, hSu⟩ := HGet.out k hlt
      have hcu := K.cell hu (by simp)
      have hSu2 := hSu.kept K (by simp)
      have htk : rs.take (k + 1) = rs.take k ++ [rs[k]] := List.take_succ_eq_append_getElem hkx
      have hmem : rs[k] ∈ rs := List.getElem_mem hkx
      obtain ⟨x, hx⟩ : ∃ x, x = rs[k] := ⟨_, rfl⟩
      rw [← hx] at hSu2 htk hmem
      have hBx : Bs x := HB.out _ hmem
      have hxl : x.length ≤ 1000000 := HL.out _ hmem
      have HD := hide (mdecode_any u x wr hSu2 hBx (by omega))
      have HS2 := hide hSu2
      have HTK := hide htk
      have HM := hide hmem
      obtain ⟨ax, cx, hux, -⟩ := id hSu2
      obtain ⟨nx, hnx⟩ : ∃ n, n = x.length := ⟨_, rfl⟩
      rw [← hnx] at hux
      subst hux
      have hkl : (rs.take k).length ≤ 1000000 := by rw [List.length_take]; omega
      clear hSu hSu2 hu hnx hx htk hmem K
      cases hokx : okM x with
      | false =>
        rw [hokx, errOf_f] at HD
        have hok2 : ok = false := by
          rw [HOk.out, Bool.eq_false_iff]
          intro h
          rw [List.all_eq_true] at h
          have := h x HM.out
          rw [hokx] at this
          cases this
        subst hok2
        clear hokx
        go_wp2_with fail
        refine HD.out.mono ?_
        rintro ee w2 ⟨vm, rfl, ⟨af, nf, cf, an, nn, cn, rfl, -, -, -⟩, K2⟩
        have HK2 := hide (HK.out.trans K2)
        clear HD K2
        go_wp2_with (refine wpList_store_man rfl (.tmp 7) (.tmp 18) rfl w2.heap.size rfl _ _ _ _ _ _ _ _ (heap_alloc_new w2 _) rfl ⟨rfl, rfl, rfl, rfl⟩ ?_; intro wa Ga Ka)
        go_ret2
        exact ⟨_, rfl, (HK2.out.alloc _).then Ka (fun i hi => .inr (by simp at hi; subst hi; have := HK2.out.size; omega)), fun h => by cases h⟩
      | true =>
        rw [hokx, errOf_t] at HD
        have HOx := hide hokx
        clear hokx
        go_wp2_with fail
        refine HD.out.mono ?_
        rintro ee w2 ⟨vm, rfl, ⟨af, nf, cf, an, nn, cn, rfl, -, -, -⟩, K2⟩
        have HK2 := hide K2
        clear HD K2
        go_wp2_with (refine wpList_store_man rfl (.tmp 7) (.tmp 18) rfl w2.heap.size rfl _ _ _ _ _ _ _ _ (heap_alloc_new w2 _) rfl ⟨rfl, rfl, rfl, rfl⟩ ?_; intro wa Ga Ka; refine Hid.out ?_)
        have KA : Kp [] wr wa := (HK2.out.alloc _).then Ka (fun i hi => .inr (by simp at hi; subst hi; exact HK2.out.size))
        have hcv := (HS2.out.kept KA (by simp)).conv (P := Tryz.prog) 28 9 5 Tryz.underlying28 Tryz.underlying5 Tryz.underlying9
        have kb : Kp [] wa (wa.alloc (.cells #[.string (strOfNums x)] 9)) := (Kp.refl [] wa).alloc _
        have HRa := hide ((HR.out.kept KA (by simp)).kept kb (by simp))
        have HKA := hide (KA.trans kb)
        have HCa : Hid ((wa.alloc (.cells #[.string (strOfNums x)] 9)).cell? ⟨wa.heap.size, 0, none⟩ = some (.string (strOfNums x))) := by
          show _ = _
          rw [World.cell?_alloc_at _ _ _ _ rfl]; rfl
        have HSz : Hid (w.heap.size ≤ (wa.alloc (.cells #[.string (strOfNums x)] 9)).heap.size) := hide (HK.out.trans (KA.trans kb)).size
        clear KA kb Ka Ga
        refine hide ?_
        go_wp2_with (at_builtin; refine wpList_appU rfl (.tmp 22) (.tmp 25) rfl w.heap.size (.slice ao m c) (rs.take k) rfl HRa.out _ _ x rfl HCa.out (by omega) HSz.out ?_; intro a3 m3 c3 w3 R3 S3)
        go_roundw
        case rel =>
          refine ⟨k + 1, by omega, by go_num, ⟨a3, m3, c3, rfl⟩, by rw [HTK.out]; exact R3, ?_, (HK.out.trans HKA.out).then S3.1 (fun i hi => .inr (HRa.out.lt (by simpa [Option.mem_toList] using hi)).1)⟩
          show _ = true
          rw [HTK.out, List.all_append, hall.out]
          simp [HOx.out]
        case measure => simp [intOf]; omega
    · have hkn : k = N := by omega
      have hnlt : ¬ (k : Int) < (N : Int) := by omega
      have e : rs.take k = rs := List.take_of_length_le (by have := HNr.out; omega)
      rw [e] at HR hall
      have hok2 : ok = true := by rw [HOk.out]; exact hall.out
      subst hok2
      clear K hkn e
      go_wp2_with fail
      go_ret2
      exact ⟨.slice ao m c, rfl, HK.out, HR.out⟩
/-- those that are no item of the ledger. -/
def lackP (its rs : List (List Int)) : List (List Int) := rs.filter (fun x => decide (x ∉ its))
theorem lackP_snoc (its rs : List (List Int)) (x : List Int) : lackP its (rs ++ [x]) = if x ∈ its then lackP its rs else lackP its rs ++ [x] := by
  unfold lackP
  rw [List.filter_append]
  by_cases h : x ∈ its <;> simp [h]
section
variable {w0 w : World} {l pd pk : Nat} {S : LS} {f : Fps}
set_option maxRecDepth 100000 in
set_option maxHeartbeats 4000000 in
theorem flack_any (h : Lg w0 w l pd pk S f) (v : Value) (lv : List (Value × List Int)) (rs : List (List Int)) (hrs : lv.map (·.2) = rs) (hL : Lists w v lv) (hB : ∀ r ∈ rs, Bs r) (hlt0 : ∀ x ∈ lv, ∀ i, x.1.ownBlock = some i → i < w.heap.size) (hl : ∀ r ∈ rs, r.length ≤ 65535) (hn : rs.length ≤ 1000000) :
    Calls Tryz.prog 41 #[.pointer (some ⟨l, 0, none⟩), v] w fun e w' => ∃ u lu, e = .returned u ∧ Kp [] w w' ∧ Lists w' u lu ∧ lu.map (·.2) = lackP S.its rs := by
  obtain ⟨al, cl, rfl, -, hcell⟩ := hL
  obtain ⟨N, hN⟩ : ∃ N, N = lv.length := ⟨_, rfl⟩
  have hNr : rs.length = N := by rw [← hrs, hN]; simp
  have hget : ∀ k (hk : k < N), ∃ (hk2 : k < rs.length), ∃ b off, al = some ⟨b, off, none⟩ ∧ ∃ u, w.cell? ⟨b, off + k, none⟩ = some u ∧ Sl w u rs[k] ∧ ∀ i, u.ownBlock = some i → i < w.heap.size := fun k hk => by
    have hk1 : k < lv.length := by omega
    obtain ⟨b, off, e, h1, h2, h3⟩ := hcell k hk1
    have hk2 : k < rs.length := by omega
    have e2 : rs[k] = lv[k].2 := by simp [← hrs]
    exact ⟨hk2, b, off, e, lv[k].1, h1, by rw [e2]; exact h2, hlt0 _ (List.getElem_mem hk1)⟩
  rw [← hN]
  have HGet := hide hget
  have HB := hide hB
  have HL := hide hl
  have HNr := hide hNr
  have HH := hide h
  have hN6 : N ≤ 1000000 := by omega
  clear hcell hget hB hrs hN hn hl hNr hlt0 h
  go_enter Tryz.func41, Tryz.ntmps41
  go_wp2_with fail
  go_loopw [5, 12] (fun o i wr => ∃ k : Nat, k ≤ N ∧ i = .int .i64 k ∧ (∃ ao m c, o = .slice ao m c) ∧ Kp [] w wr ∧ (∀ i, o.ownBlock = some i → w.heap.size ≤ i) ∧ ∃ lu, RowsQ wr 0 o lu ∧ lu.map (·.2) = lackP S.its (rs.take k)) (fun _ i _ => N - (intOf i).toNat)
  case atStart => exact ⟨0, by omega, rfl, ⟨_, _, _, rfl⟩, Kp.refl _ _, (fun i hi => by cases hi), [], ⟨⟨World.ownsRow_nil _ _ _ _, by simp⟩, by simp⟩, rfl⟩
  case round =>
    obtain ⟨k, hk, rfl, ⟨ao, m, c, rfl⟩, K, hnew, lu, P, hlu⟩ := hrel
    have HP := hide P
    have HK := hide K
    have HLU := hide hlu
    have HNew := hide hnew
    clear P hlu hnew
    by_cases hlt : k < N
    · have hlt' : (k : Int) < (N : Int) := by omega
      obtain ⟨hkx, b, off, rfl, u, hu, hSu, huo⟩ := HGet.out k hlt
      have hcu := K.cell hu (by simp)
      have hSu2 := hSu.kept K (by simp)
      have htk : rs.take (k + 1) = rs.take k ++ [rs[k]] := List.take_succ_eq_append_getElem hkx
      have hmem : rs[k] ∈ rs := List.getElem_mem hkx
      obtain ⟨x, hx⟩ : ∃ x, x = rs[k] := ⟨_, rfl⟩
      rw [← hx] at hSu2 htk hmem
      have hBx : Bs x := HB.out _ hmem
      have hxl : x.length ≤ 65535 := HL.out _ hmem
      have HF := hide (ufind_any (HH.out.on K) u x hSu2 hBx hxl _ rfl _ rfl)
      have HS2 := hide hSu2
      have HTK := hide htk
      have HUO := hide huo
      have HBx := hide hBx
      obtain ⟨ax, cx, hux, -⟩ := id hSu2
      obtain ⟨nx, hnx⟩ : ∃ n, n = x.length := ⟨_, rfl⟩
      rw [← hnx] at hux
      subst hux
      have hkl : lu.length ≤ 1000000 := by
        have h1 := congrArg List.length HLU.out
        rw [List.length_map] at h1
        have h2 : (lackP S.its (rs.take k)).length ≤ (rs.take k).length := List.length_filter_le _ _
        rw [List.length_take] at h2
        omega
      clear hSu hSu2 hu hnx hx htk hmem K huo
      by_cases hin : x ∈ S.its
      · rw [decide_eq_true hin] at HF
        have HIn := hide hin
        clear hin
        go_wp2_with fail
        refine HF.out.mono ?_
        rintro ee w2 ⟨rfl, K2⟩
        have HK2 := hide K2
        clear HF K2
        go_wp2_with fail
        go_roundw
        case rel => exact ⟨k + 1, by omega, by go_num, ⟨_, _, _, rfl⟩, HK.out.trans HK2.out, HNew.out, lu, HP.out.off HK2.out (by simp), by rw [HTK.out, lackP_snoc, if_pos HIn.out]; exact HLU.out⟩
        case measure => simp [intOf]; omega
      · rw [decide_eq_false hin] at HF
        have HIn := hide hin
        clear hin
        go_wp2_with fail
        refine HF.out.mono ?_
        rintro ee w2 ⟨rfl, K2⟩
        have HK2 := hide K2
        have HP2 := hide (HP.out.off K2 (by simp))
        clear HF K2
        go_wp2_with (at_builtin; refine wpList_rowsR rfl (.tmp 24) (.tmp 26) rfl (.slice ao m c) lu rfl HP2.out (Nat.zero_le _) hkl _ x (HS2.out.kept HK2.out (by simp)) (fun i hi e => by have h1 := HUO.out i hi; have h2 := HNew.out i e; omega) (fun i _ => Nat.zero_le _) HBx.out rfl ?_; intro a3 m3 c3 w3 hm3 P3 S3; clear hm3)
        go_roundw
        case rel =>
          refine ⟨k + 1, by omega, by go_num, ⟨a3, m3, c3, rfl⟩, (HK.out.trans HK2.out).then S3.1 (fun i hi => .inr (HNew.out i (by simpa [Option.mem_toList] using hi))), fun i hi => ?_, _, P3, ?_⟩
          · rcases S3.2 i hi with h1 | h1
            · exact HNew.out i h1
            · have := (HK.out.trans HK2.out).size; omega
          · rw [HTK.out, lackP_snoc, if_neg HIn.out, List.map_append, HLU.out]; rfl
        case measure => simp [intOf]; omega
    · have hkn : k = N := by omega
      have hnlt : ¬ (k : Int) < (N : Int) := by omega
      have e : rs.take k = rs := List.take_of_length_le (by have := HNr.out; omega)
      rw [e] at HLU
      have hlu : lu.length ≤ 1000000 := by
        have h1 := congrArg List.length HLU.out
        rw [List.length_map] at h1
        have h2 : (lackP S.its rs).length ≤ rs.length := List.length_filter_le _ _
        have := HNr.out
        omega
      clear K hkn e
      go_wp2_with fail
      go_ret
      exact ⟨.slice ao m c, rfl, HK.out, lu, HP.out.lists hlu, HLU.out⟩
end
end Go.Proofs.YteabdojjllfcpaaGreat

/-
  The contract of package front: Open.
-/
namespace Go.Proofs.YteabdojjllfcpaaGreat
open Go.RowKit
open Go.Proofs
set_option linter.unusedVariables false
section
variable {w0 w : World} {l pd pl pk : Nat} {d d' : Dk} {L : LS} {f : Fps} {F : Nat → Prop} {r s t : Int}
set_option maxRecDepth 100000 in
set_option maxHeartbeats 8000000 in
theorem fopen_ok (hD : Dx w0 w pd d F) (dn : d.down = false) (da : d.arm ≤ 0) {bd : List Int} (hbd : d.bs = bd) {rs : List (List Int)} {at2 : Nat} (hop : opnP bd = (rs, at2, true)) (hdd : d.opn = d') (hok : rs.all okM = true) (hrB : ∀ r ∈ rs, Bs r ∧ r.length ≤ 1000) (hrn : rs.length ≤ 1000) (hFr : ∀ i, F i → w0.heap.size ≤ i ∧ i < w.heap.size) (hL : Lg w0 w l pl pk L f) (hap : ∀ i, F i → ¬ f.tot i) (h1 : 1 ≤ r) (h2 : r ≤ 16) (h3 : 1 ≤ s) (h4 : s ≤ 8) (h5 : 0 ≤ t) (h6 : t ≤ 1000) :
    Calls Tryz.prog 12 #[.pointer (some ⟨pd, 0, none⟩), .pointer (some ⟨l, 0, none⟩), .int .i64 r, .int .i64 s, .int .i64 t] w fun e w' => ∃ p, e = .returned (.tuple #[.pointer (some ⟨p, 0, none⟩), .int .i64 0]) ∧ ∃ g, Bo w0 w' p l pd pl pk ⟨r, s, t, (lackP L.its rs).map evr, rs, d', rs.length⟩ L g f ∧ Stp (fun i => F i ∨ f.tot i) w w' (two2 g f) := by
  obtain ⟨v, hN, hF⟩ := hD
  have HN := hide (qf_new r s t w h1 h2 h3 h4 h5 h6)
  have HD := hide hN
  have HF := hide hF
  have HOp := hide hop
  have HB := hide hrB
  have Hrn := hide hrn
  have HOk := hide hok
  have Hbd := hide hbd
  have Hdn := hide dn
  have Hda := hide da
  have Hdd := hide hdd
  have HLg := hide hL
  have Hap := hide hap
  have HFr := hide hFr
  clear h1 h2 h3 h4 h5 h6 hN hF hop hrB hrn hok hbd dn da hdd hL hap hFr
  go_enter Tryz.func12, Tryz.ntmps12
  go_wp2_with fail
  refine HN.out.mono ?_
  rintro ee w1 ⟨q, rfl, K1, hq1, hq2, Q1⟩
  have HK1 := hide K1
  have Hq1 := hide hq1
  have Hq2 := hide hq2
  have HQ1 := hide (Q1 w0 HD.out.kp.size)
  have HO := hide (open_at (HD.out.on K1) Hdn.out Hda.out bd Hbd.out)
  clear HN K1 hq1 hq2 Q1
  go_wp2_with fail
  refine HO.out.mono ?_
  rw [HOp.out, Hdd.out]
  rintro ee w2 (⟨ht, j, v1, al, m, cl, lj, rfl, J1, hj1, T1, P1, hl1, hm1⟩ | ⟨hf, -⟩)
  · have hlj : lj.length ≤ 1000 := by have h0 : lj.map (·.2) = rs := hl1; have h1 := congrArg List.length h0; rw [List.length_map] at h1; have := Hrn.out; omega
    have hLs := P1.parts.lists hlj
    have HLs := hide hLs
    have HT := hide (ftexts_any (.slice al m cl) lj rs hl1 w2 hLs (fun r hr => (HB.out r hr).1) (fun r hr => by have := (HB.out r hr).2; omega) (by have := Hrn.out; omega) true HOk.out.symm)
    have HFv : Hid (∀ i ∈ dfp pd v, w0.heap.size ≤ i ∧ i < w.heap.size ∧ ¬ f.tot i) := fun i hi => ⟨(HFr.out i (HF.out i hi)).1, (HFr.out i (HF.out i hi)).2, Hap.out i (HF.out i hi)⟩
    have HL2 := hide ((HLg.out.on HK1.out).beside T1.1 (fun i hi => ⟨(HFv.out i hi).1, (HFv.out i hi).2.2⟩))
    have HQ2 := hide (HQ1.out.kept T1.1 (fun i hi e => by have := (HFv.out i hi).2.1; have := Hq1.out; omega))
    have HJ1 := hide J1
    have Hj1 := hide hj1
    have HT1 := hide T1
    have HS1 := hide T1.1.size
    have Hlj := hide hl1
    have Hlt : Hid (∀ x ∈ lj, ∀ i, x.1.ownBlock = some i → i < w2.heap.size) := fun x hx i hi => (P1.parts.2 x hx).1.lt hi
    clear HO J1 hj1 T1 P1 hl1 hm1 ht hLs
    go_wp2_with fail
    refine HT.out.mono ?_
    rintro ee w3 ⟨u, rfl, K3, hR⟩
    have R3 := hR (by trivial)
    obtain ⟨a3, c3, rfl⟩ := R3.shape
    obtain ⟨n3, hn3⟩ : ∃ n, n = rs.length := ⟨_, rfl⟩
    rw [← hn3] at R3 ⊢
    have HK3 := hide K3
    have HR3 := hide R3
    have HLk := hide (flack_any (HL2.out.on K3) (.slice al m cl) lj rs Hlj.out (HLs.out.kept K3) (fun r hr => (HB.out r hr).1) (fun x hx i hi => by have := Hlt.out x hx i hi; have := HK3.out.size; omega) (fun r hr => by have := (HB.out r hr).2; omega) (by have := Hrn.out; omega))
    have HN3 := hide hn3
    clear HT K3 hR R3 hn3
    go_wp2_with fail
    refine HLk.out.mono ?_
    rintro ee w4 ⟨u4, lu, rfl, K4, L4, hlu⟩
    have HK4 := hide K4
    have HQ4 := hide ((HQ2.out.kept HK3.out (by simp)).kept K4 (by simp))
    have hll : lu.length ≤ 1000 := by
      have h1 := congrArg List.length hlu
      rw [List.length_map] at h1
      have h2 : (lackP L.its rs).length ≤ rs.length := List.length_filter_le _ _
      have := Hrn.out
      omega
    have HBk := hide (qf_back HQ4.out (by have := HD.out.kp.size; have := HK1.out.size; have := HS1.out; have := HK3.out.size; have := HK4.out.size; omega) lu L4 (fun x hx => by
      have h1 : x.2 ∈ lu.map (·.2) := List.mem_map.2 ⟨x, hx, rfl⟩
      rw [hlu] at h1
      exact (HB.out x.2 (List.mem_filter.1 h1).1).2) (by simp; omega) ⟨r, s, t, (lackP L.its rs).map evr⟩ (by rw [← hlu]; simp))
    obtain ⟨a4, c4, e4, -⟩ := id L4
    subst e4
    clear HLk K4 L4 hlu
    go_wp2_with fail
    refine HBk.out.mono ?_
    rintro ee w5 ⟨rfl, F4, Q5, T5⟩
    have HQ5 := hide Q5
    have HT5 := hide T5
    clear HBk Q5 T5
    go_wp2_with fail
    go_ret2
    obtain ⟨⟨U5, hU5, kU5⟩, hF4⟩ := HT5.out
    have s0 := HD.out.kp.size
    have s1 := HK1.out.size
    have s2 := HS1.out
    have s3 := HK3.out.size
    have s4 := HK4.out.size
    have s5 := kU5.size
    have q1 := Hq1.out
    have q2 := Hq2.out
    have j1 := Hj1.out
    have j2 := HJ1.out.jr.lt
    have hR3 := HR3.out
    have hF3 : ∀ i, grF F v1 i ∨ i = j → (F i) ∨ (w1.heap.size ≤ i ∧ i < w2.heap.size) := fun i hi => by
      rcases hi with (hi | hi) | rfl
      · exact .inl hi
      · rcases HT1.out.2 i hi with h | h
        · exact .inl (HF.out i (mem_dfp.2 (.inr h)))
        · exact .inr ⟨h, HJ1.out.nw.rlt i hi⟩
      · exact .inr ⟨j1, j2⟩
    have hF4' : ∀ i, F4 i → i = q ∨ (w4.heap.size ≤ i ∧ i < w5.heap.size) := hF4
    have hU : ∀ i ∈ U5, i = q := hU5
    have kap : Kp [] w5 (w5.alloc (.cells #[.pointer (some ⟨l, 0, none⟩), .pointer (some ⟨j, 0, none⟩), .pointer (some ⟨q, 0, none⟩), .int .i64 r, .slice a3 n3 c3] 93)) := (Kp.refl [] w5).alloc _
    have k35 : Kp [] w2 w3 := HK3.out
    have k24 : Kp [] w2 w4 := HK3.out.trans HK4.out
    have nq : ∀ i ∈ U5, w1.heap.size ≤ i → False := fun i hi h => by have := hU i hi; omega
    have kT : Kp (dfp pd v) w w4 := ((HK1.out.mono (by simp)).trans HT1.out.1).trans (k24.mono (by simp))
    have kW : Kp [] w0 (w5.alloc (.cells #[.pointer (some ⟨l, 0, none⟩), .pointer (some ⟨j, 0, none⟩), .pointer (some ⟨q, 0, none⟩), .int .i64 r, .slice a3 n3 c3] 93)) := ((HD.out.kp.then kT (fun i hi => .inr (HFv.out i hi).1)).then kU5 (fun i hi => .inr (by have := hU i hi; omega))).trans kap
    have vrl : ∀ k, (Value.slice a3 n3 c3).ownBlock = some k → w2.heap.size ≤ k ∧ k < w3.heap.size := fun k hk => hR3.lt hk
    have hs5 : (w5.alloc (.cells #[.pointer (some ⟨l, 0, none⟩), .pointer (some ⟨j, 0, none⟩), .pointer (some ⟨q, 0, none⟩), .int .i64 r, .slice a3 n3 c3] 93)).heap.size = w5.heap.size + 1 := by simp
    have hfr := HFr.out
    have hft : ∀ i, f.tot i → i < w.heap.size := fun i hi => (HLg.out.lt i hi).2
    have hapf := Hap.out
    refine ⟨w5.heap.size, rfl, fun a i => (a = 1 ∧ i = w5.heap.size) ∨ (a = 2 ∧ (Value.slice a3 n3 c3).ownBlock = some i) ∨ (a = 3 ∧ (grF F v1 i ∨ i = j)) ∨ (a = 4 ∧ F4 i), ⟨⟨j, q, .slice a3 n3 c3, ⟨kW, ?_, ?_⟩, heap_alloc_new w5 _, .inl ⟨rfl, rfl⟩, ?_, fun k hk => .inr (.inl ⟨rfl, hk⟩), ?_, ?_, HB.out⟩, ?_, ?_⟩, ?_⟩
    · rintro a b i (⟨rfl, h⟩ | ⟨rfl, h⟩ | ⟨rfl, h⟩ | ⟨rfl, h⟩) (⟨rfl, h'⟩ | ⟨rfl, h'⟩ | ⟨rfl, h'⟩ | ⟨rfl, h'⟩)
      all_goals first
        | rfl
        | (exfalso
           try have z1 := vrl i h
           try have z2 := vrl i h'
           try have z3 := hF4' i h
           try have z4 := hF4' i h'
           try have z5 := hF3 i h
           try have z6 := hF3 i h'
           first
             | omega
             | (rcases z5 with z | z <;> first | omega | (have := hfr i z; omega))
             | (rcases z6 with z | z <;> first | omega | (have := hfr i z; omega)))
    · rw [hs5]
      rintro a i (⟨rfl, h⟩ | ⟨rfl, h⟩ | ⟨rfl, h⟩ | ⟨rfl, h⟩)
      · omega
      · have := vrl i h; omega
      · rcases hF3 i h with z | z
        · have := hfr i z; omega
        · omega
      · have := hF4' i h; omega
    · have e : (⟨r, s, t, (lackP L.its rs).map evr, rs, d', n3⟩ : FS).rc = rs := rfl
      have h5 : RowU w5 w2.heap.size (.slice a3 n3 c3) rs := (hR3.kept HK4.out (by simp)).kept kU5 (fun i hi hm => by have := vrl i hi; have := hU i hm; omega)
      exact owns_rebase (h5.kept kap (by simp)) (fun k hk => by have := (vrl k hk).1; omega)
    · refine ⟨v1, rs.length, Nat.le_refl _, ?_, .inr (.inr (.inl ⟨rfl, .inr rfl⟩)), fun i hi => .inr (.inr (.inl ⟨rfl, .inl (grF_fp (HF.out pd (mem_dfp.2 (.inl rfl))) i hi)⟩))⟩
      have hJ := HJ1.out
      have hv1 : ∀ i ∈ dfp pd v1, i ∉ U5 := fun i hi hm => by
        have e := hU i hm
        subst e
        rcases hF3 i (.inl (grF_fp (HF.out pd (mem_dfp.2 (.inl rfl))) i hi)) with z | z
        · have := hfr i z; omega
        · omega
      exact ((hJ.kept k24 (hJ.nw.kp.trans k24) (by simp) (by simp)).kept kU5 (((hJ.nw.kp.trans k24)).then kU5 (fun i hi => .inr (by have := hU i hi; omega))) hv1 (fun hm => by have := hU j hm; omega)).kept kap kW (by simp) (by simp)
    · have := HQ5.out.kept kap (by simp)
      obtain ⟨v4, m1, m2, m3⟩ := this
      exact ⟨v4, m1, m2, fun i hi => .inr (.inr (.inr ⟨rfl, m3 i hi⟩))⟩
    · have h2 := (HL2.out.on k24).beside kU5 (fun i hi => ⟨by have := hU i hi; omega, fun e => by have := hft i e; have := hU i hi; omega⟩)
      exact h2.on kap
    · rintro i ⟨a, ⟨rfl, h⟩ | ⟨rfl, h⟩ | ⟨rfl, h⟩ | ⟨rfl, h⟩⟩ e
      · have := hft i e; omega
      · have := hft i e; have := vrl i h; omega
      · rcases hF3 i h with z | z
        · exact hapf i z e
        · have := hft i e; omega
      · have := hft i e; have := hF4' i h; omega
    · refine ⟨⟨dfp pd v, fun i hi => .inl (HF.out i hi), (kT.then (kU5) (fun i hi => .inr (by have := hU i hi; omega))).trans (kap.mono (by simp))⟩, fun i hi => ?_⟩
      rw [hs5]
      rcases hi with ⟨a, ⟨rfl, h⟩ | ⟨rfl, h⟩ | ⟨rfl, h⟩ | ⟨rfl, h⟩⟩ | h
      · exact .inr (by omega)
      · exact .inr (by have := vrl i h; omega)
      · rcases hF3 i h with z | z
        · exact .inl (.inl z)
        · exact .inr (by omega)
      · exact .inr (by have := hF4' i h; omega)
      · exact .inl (.inr h)
  · cases hf
end
end Go.Proofs.YteabdojjllfcpaaGreat

/-
  The contracts of package front: receiptOf, Receipts, Waits, Receipt.
-/
namespace Go.Proofs.YteabdojjllfcpaaGreat
open Go.RowKit
open Go.Proofs
set_option linter.unusedVariables false
section
variable {w0 w : World} {p l pd : Nat} {S : FS} {g : Fps}
set_option maxRecDepth 100000 in
set_option maxHeartbeats 2000000 in
theorem frcpt_any (h : Fg w0 w p l pd S g) (vx : Value) (x : List Int) (hS : Sl w vx x) (hB : Bs x) (hl : S.rc.length ≤ 1000000) (n : Int) (hn : n = if x ∈ S.rc then (S.rc.idxOf x : Int) else -1) :
    Calls Tryz.prog 60 #[.pointer (some ⟨p, 0, none⟩), vx] w fun e w' => e = .returned (.int .i64 n) ∧ Kp [] w w' := by
  obtain ⟨j, q, vr, hx⟩ := h
  obtain ⟨ar, cr, rfl⟩ := hx.rr.shape
  have hat := hx.at_
  have hrr := hx.rr
  obtain ⟨rc, hrc⟩ : ∃ rc, rc = S.rc := ⟨_, rfl⟩
  obtain ⟨rm, hrm⟩ : ∃ rm, rm = S.room := ⟨_, rfl⟩
  obtain ⟨nr, hnr⟩ : ∃ nr, nr = S.rc.length := ⟨_, rfl⟩
  have hbb := hx.rb
  rw [← hrc] at hrr hn hbb hl
  rw [← hrm] at hat
  rw [← hnr] at hat
  rw [hrc, ← hnr, ← hrc] at hrr
  have HAt : Hid (∀ w', Kp [] w.drew w' → Fv 93 w' p (.pointer (some ⟨l, 0, none⟩)) (.pointer (some ⟨j, 0, none⟩)) (.pointer (some ⟨q, 0, none⟩)) (.int .i64 rm) (.slice ar nr cr)) := fun w' k => hat.kept ((kp_drew w).trans k) (by simp)
  have HRr : Hid (∀ w', Kp [] w.drew w' → RowU w' w0.heap.size (.slice ar nr cr) rc) := fun w' k => hrr.kept ((kp_drew w).trans k) (by simp)
  have HBb : Hid (∀ y ∈ rc, Bs y) := fun y hy => (hbb y hy).1
  have HCv : Hid (∀ w', Kp [] w.drew w' → (convert 28 9 vx).run Tryz.prog w' = .ok (.string (strOfNums x)) w') := fun w' k => (hS.kept ((kp_drew w).trans k) (by simp)).conv (P := Tryz.prog) 28 9 5 Tryz.underlying28 Tryz.underlying5 Tryz.underlying9
  obtain ⟨ax, cx, hvx, -⟩ := hS
  obtain ⟨nx, hnx⟩ : ∃ n, n = x.length := ⟨_, rfl⟩
  rw [← hnx] at hvx
  subst hvx
  have HB := hide hB
  have HLr := hide hl
  have HN := hide hn
  clear hx hB hl hn hnx hat hrr hbb hrc hrm hnr
  go_enter Tryz.func60, Tryz.ntmps60
  go_wp2_with fail
  refine region_grow Tryz.mixed [Is (.pointer (some ⟨p, 0, none⟩)), Is (.pointer (some ⟨p, 0, none⟩)), Is (.pointer (some ⟨p, 4, none⟩)), Is (.slice ar nr cr), Is (.slice ax nx cx), Is (.string (strOfNums x)), Is (.int .i64 n), Is (.int .i64 n)] [[(0, none)], [(5, some 0)], [(6, some 1)], [(7, some 2)], [(1, none)], [(9, some 4)], [(8, some 3), (10, some 5)], [(11, some 6)]] (by kernel_rfl) ?_ ?_ ?_
  · simp only [List.mem_cons, List.not_mem_nil, or_false]
    intro R hR
    rcases hR with rfl | rfl | rfl | rfl | rfl | rfl | rfl | rfl <;> first | exact stable_is _
  · refine steps_cons (fun a w hk hn => ?_) ?_
    · have h0 : a.eval (.tmp 0) = .pointer (some ⟨p, 0, none⟩) := hn.1
      clear hn
      refine wants_plain rfl ?_
      exact grown_move (.tmp 0) rfl h0
    refine steps_cons (fun a w hk hn => ?_) ?_
    · have h5 : a.eval (.tmp 5) = .pointer (some ⟨p, 0, none⟩) := hn.1
      clear hn
      refine wants_plain rfl ?_
      refine grown_run (v := .pointer (some ⟨p, 0, none⟩)) ?_ (Kp.refl _ _) rfl
      obtain ⟨ρ, hρ, hc, hf, hg⟩ := eval_is a
      rw [hρ] at h5 ⊢
      simp [go_sem, h5]
    refine steps_cons (fun a w hk hn => ?_) ?_
    · have h6 : a.eval (.tmp 6) = .pointer (some ⟨p, 0, none⟩) := hn.1
      clear hn
      refine wants_plain rfl ?_
      refine grown_run (v := .pointer (some ⟨p, 4, none⟩)) ?_ (Kp.refl _ _) rfl
      obtain ⟨ρ, hρ, hc, hf, hg⟩ := eval_is a
      rw [hρ] at h6 ⊢
      simp [go_sem, h6]
    refine steps_cons (fun a w hk hn => ?_) ?_
    · have h7 : a.eval (.tmp 7) = .pointer (some ⟨p, 4, none⟩) := hn.1
      clear hn
      refine wants_plain rfl ?_
      refine grown_run (v := .slice ar nr cr) ?_ (Kp.refl _ _) rfl
      have hcell : w.cell? ⟨p, 4, none⟩ = some (.slice ar nr cr) := by rw [cell_of_row w p 4 _ _ _ (HAt.out w hk)]; rfl
      obtain ⟨ρ, hρ, hc, hf, hg⟩ := eval_is a
      rw [hρ] at h7 ⊢
      simp [go_sem, h7, hcell]
    refine steps_cons (fun a w hk hn => ?_) ?_
    · have h1 : a.eval (.tmp 1) = .slice ax nx cx := hn.1
      clear hn
      refine wants_plain rfl ?_
      exact grown_move (.tmp 1) rfl h1
    refine steps_cons (fun a w hk hn => ?_) ?_
    · have h9 : a.eval (.tmp 9) = .slice ax nx cx := hn.1
      clear hn
      refine wants_plain rfl ?_
      refine grown_run (v := .string (strOfNums x)) ?_ (Kp.refl _ _) rfl
      obtain ⟨ρ, hρ, hc, hf, hg⟩ := eval_is a
      rw [hρ] at h9 ⊢
      simp [go_sem, h9, HCv.out w hk]
    refine steps_cons (fun a w hk hn => ?_) ?_
    · have h8 : a.eval (.tmp 8) = .slice ar nr cr := hn.1
      have h10 : a.eval (.tmp 10) = .string (strOfNums x) := hn.2.1
      clear hn
      refine wants_plain rfl ?_
      refine grown_call (f := 97) rfl Tryz.func97 (by kernel_rfl) (by kernel_rfl) ?_
      simp only [List.map_toArray, List.map_cons, List.map_nil, h8, h10]
      refine (sidx_any w0.heap.size (.slice ar nr cr) rc x w (HRr.out w hk) HB.out HBb.out HLr.out n HN.out).mono ?_
      rintro e w' ⟨rfl, rfl⟩
      exact ⟨_, rfl, Kp.refl _ _, rfl⟩
    refine steps_cons (fun a w hk hn => ?_) ?_
    · have h11 : a.eval (.tmp 11) = .int .i64 n := hn.1
      clear hn
      refine wants_plain rfl ?_
      exact grown_assign (.tmp 11) rfl h11
    exact trivial
  intro W1 hkW1
  rintro _ rfl
  rintro _ rfl
  rintro _ rfl
  rintro _ rfl
  rintro _ rfl
  rintro _ rfl
  rintro _ rfl
  rintro _ rfl
  refine fin_nil ?_
  simp only [Act.put, List.set_cons_zero, List.set_cons_succ, List.setIfInBounds_toArray]
  go_wp2_with fail
  go_ret
  exact ⟨rfl, (kp_drew w).trans hkW1⟩
theorem frcs_any (h : Fg w0 w p l pd S g) (n : Nat) (hn : n = S.rc.length) : Calls Tryz.prog 17 #[.pointer (some ⟨p, 0, none⟩)] w fun e w' => e = .returned (.int .i64 (n : Nat)) ∧ w' = w := by
  obtain ⟨j, q, vr, hx⟩ := h
  obtain ⟨ar, cr, rfl⟩ := hx.rr.shape
  have hc := hx.at_.c4
  rw [← hn] at hc
  clear hx hn
  go_enter Tryz.func17, Tryz.ntmps17
  go_wp2_with fail
  go_ret
  exact ⟨rfl, rfl⟩
end
end Go.Proofs.YteabdojjllfcpaaGreat

/-
  The contract of package front: Submit.
-/
namespace Go.Proofs.YteabdojjllfcpaaGreat
open Go.RowKit
open Go.Proofs
set_option linter.unusedVariables false
theorem okM_short {b : List Int} (hB : Bs b) (h : okM b = true) : b.length ≤ 125 := by
  have e := enc_dec hB h
  have hr := ((okM_iff b).1 h).2.2
  rw [← e, encM_len]
  obtain ⟨h1, -, h3, h4⟩ := (rgtM_iff _).1 hr
  have := (nameP_len h1).2
  omega
/-- written, it waits and has a receipt. -/
def FS.put (S : FS) (d' : Dk) (b : List Int) (now : Int) : FS := { S with d := d', m := S.m + 1, ms := S.ms ++ [⟨b, now⟩], rc := S.rc ++ [b] }
/-- the disk refused. -/
def FS.tried (S : FS) (d' : Dk) : FS := { S with d := d', m := S.m + 1 }
/-- Submit: kind, number, what the front is then. -/
def subP (its : List (List Int)) (S : FS) (b : List Int) (now : Int) : Int × Int × FS :=
  if okM b = false then (4, 0, S)
  else if b ∈ its then (2, its.idxOf b, S)
  else if S.ms.any (sameI b) = true then (1, if b ∈ S.rc then (S.rc.idxOf b : Int) else -1, S)
  else if S.room ≤ S.ms.length then (3, 0, S)
  else if (S.d.add (recP b)).1 = true then (1, S.rc.length, S.put (S.d.add (recP b)).2 b now)
  else (3, 0, S.tried (S.d.add (recP b)).2)
theorem Tryz.ansSize : (Tryz.prog.info? 57).map (·.size) = some 2 := by kernel_rfl
def ansV (k n : Int) : Value := .agg #[.int .i64 k, .int .i64 n]
section
variable {w0 w : World} {p l pd pl pk : Nat} {S : FS} {L : LS} {g f : Fps}
set_option maxRecDepth 100000 in
set_option maxHeartbeats 16000000 in
theorem fsub_any (h : Fg w0 w p l pd S g) (hL : Lg w0 w l pl pk L f) (vb : Value) (b : List Int) (hS : Sl w vb b) (hB : Bs b) (hl : b.length ≤ 65535) (hvb : ∀ i, vb.ownBlock = some i → ¬ g.tot i) (now : Int) (hn0 : -9223372036854775808 ≤ now) (hn1 : now ≤ 9223372036854775807) (hrc : S.rc.length ≤ 1000) (hm : S.m ≤ 1000) (k n : Int) (S' : FS) (hsub : subP L.its S b now = (k, n, S')) :
    Calls Tryz.prog 24 #[.pointer (some ⟨p, 0, none⟩), vb, .int .i64 now] w fun e w' => e = .returned (ansV k n) ∧ ∃ g', Fg w0 w' p l pd S' g' ∧ Stp g.tot w w' g'.tot := by
  have K1 : Kp [] w (w.alloc (.cells #[.int .i64 0, .int .i64 0] 57)) := (Kp.refl [] w).alloc _
  have HD := hide (mdecode_any vb b _ (hS.kept K1 (by simp)) hB (by omega))
  have G1 : Hid ((w.alloc (.cells #[.int .i64 0, .int .i64 0] 57)).heap[w.heap.size]? = some (.cells #[.int .i64 0, .int .i64 0] 57 (0, 0))) := heap_alloc_new w _
  have HK1 := hide K1
  have HH := hide h
  have HL := hide hL
  have HS := hide hS
  have HB := hide hB
  have Hl := hide hl
  have Hvb := hide hvb
  have Hn0 := hide hn0
  have Hn1 := hide hn1
  have Hrc := hide hrc
  have Hm := hide hm
  have Hsub := hide hsub
  have Hlt : Hid (∀ i, g.tot i → i < w.heap.size) := fun i hi => (h.lt i hi).2
  obtain ⟨ab, cb, evb, -⟩ := hS
  obtain ⟨nb, hnb⟩ : ∃ n, n = b.length := ⟨_, rfl⟩
  rw [← hnb] at evb
  subst evb
  clear K1 h hL hB hl hvb hn0 hn1 hrc hm hsub hnb
  go_enter Tryz.func24, Tryz.ntmps24
  go_wp2_with fail
  refine HD.out.mono ?_
  rintro ee w2 ⟨vm, rfl, ⟨af, nf, cf, an, nn, cn, rfl, -, -, -⟩, K2⟩
  have HK2 := hide K2
  clear HD K2
  go_wp2_with (refine wpList_store_man rfl (.tmp 7) (.tmp 14) rfl w2.heap.size rfl _ _ _ _ _ _ _ _ (heap_alloc_new w2 _) rfl ⟨rfl, rfl, rfl, rfl⟩ ?_; intro wa Ga Ka; refine Hid.out ?_)
  have KA : Kp [] (w.alloc (.cells #[.int .i64 0, .int .i64 0] 57)) wa := (HK2.out.alloc _).then Ka (fun i hi => .inr (by simp at hi; subst hi; exact HK2.out.size))
  have GA := hide (KA.heap G1.out (by simp))
  have HKA := hide (HK1.out.trans KA)
  have hsz1 : w.heap.size < wa.heap.size := by have := KA.size; simp at this; omega
  have Hsz := hide hsz1
  clear Ka Ga KA G1 HK2 HK1 hsz1
  have HA := hide (HH.out.on HKA.out)
  have HLA := hide (HL.out.on HKA.out)
  have HSA := hide (HS.out.kept HKA.out (by simp))
  obtain ⟨dm, hdm⟩ : ∃ x : Bool, x = decide (b ∈ L.its) := ⟨_, rfl⟩
  obtain ⟨ix, hix⟩ : ∃ x : Int, x = if dm = true then (L.its.idxOf b : Int) else 0 := ⟨_, rfl⟩
  have HF := hide (ufind_any HLA.out (.slice ab nb cb) b HSA.out HB.out Hl.out dm hdm ix hix)
  obtain ⟨jj, q, vr, hx⟩ := HA.out
  have hc0 := hx.at_.c0
  have HX := hide hx
  clear hx
  have Hdm := hide hdm
  have Hix := hide hix
  clear hdm hix
  refine hide ?_
  go_wp2_with fail
  refine HF.out.mono ?_
  rintro ee w3 ⟨rfl, K3⟩
  have G3 := hide (K3.heap GA.out (by simp))
  have HKB := hide (HKA.out.trans K3)
  have HX3 := hide (HX.out.on K3)
  have HS3 := hide (HSA.out.kept K3 (by simp))
  have Hsz3 : Hid (w.heap.size < w3.heap.size) := hide (Nat.lt_of_lt_of_le Hsz.out K3.size)
  clear HF K3 GA HKA HX HSA hc0
  -- what only made memory, and tells
  have done : ∀ (x y : Int) (w4 w5 : World), Kp [] w3 w4 → w5.heap[w.heap.size]? = some (.cells #[.int .i64 x, .int .i64 y] 57 (0, 0)) → Kp [w.heap.size] w4 w5 → S' = S → k = x → n = y → ∃ g', Fg w0 w5 p l pd S' g' ∧ Stp g.tot w w5 g'.tot := fun x y w4 w5 k4 g5 k5 e _ _ => by
    have kt : Kp [] w w5 := (HKB.out.trans k4).then k5 (fun i hi => .inr (by simp at hi; omega))
    subst e
    exact ⟨g, HH.out.on kt, Stp.mid kt⟩
  have HDone := hide done
  clear done
  cases hokb : okM b with
  | false =>
    have hs := Hsub.out
    unfold subP at hs
    rw [if_pos hokb] at hs
    simp only [Prod.mk.injEq] at hs
    obtain ⟨e1, e2, e3⟩ := hs
    subst e1 e2 e3
    rw [errOf_f]
    go_wp2_with (refine wpList_store_flat rfl 57 (.tmp 6) (.tmp 28) rfl w.heap.size 0 rfl _ _ [.int .i64 4, .int .i64 0] G3.out rfl (by simp) Tryz.ansSize (by simp [Value.oneCell']) #[.int .i64 4, .int .i64 0] rfl ?_; intro w4 G4 K4)
    refine bodyPost_ret (results_flat1 rfl _ rfl G4 Tryz.underlying57 rfl Tryz.ansSize) rfl ?_
    exact ⟨rfl, HDone.out 4 0 w3 w4 (Kp.refl _ _) G4 K4 (by trivial) (by trivial) (by trivial)⟩
  | true =>
    rw [errOf_t]
    have hs := Hsub.out
    unfold subP at hs
    rw [if_neg (by rw [hokb]; decide)] at hs
    by_cases hin : b ∈ L.its
    · rw [if_pos hin] at hs
      simp only [Prod.mk.injEq] at hs
      obtain ⟨e1, e2, e3⟩ := hs
      have d1 : dm = true := by rw [Hdm.out, decide_eq_true hin]
      have i1 : ix = (L.its.idxOf b : Int) := by rw [Hix.out, if_pos (by rw [Hdm.out, decide_eq_true hin])]
      rw [← i1] at e2
      subst d1 e1 e2 e3
      clear i1 hin hokb Hix
      go_wp2_with (refine wpList_store_flat rfl 57 (.tmp 6) (.tmp 32) rfl w.heap.size 0 rfl _ _ [.int .i64 2, .int .i64 ix] G3.out rfl (by simp) Tryz.ansSize (by simp [Value.oneCell']) #[.int .i64 2, .int .i64 ix] rfl ?_; intro w4 G4 K4)
      refine bodyPost_ret (results_flat1 rfl _ rfl G4 Tryz.underlying57 rfl Tryz.ansSize) rfl ?_
      exact ⟨rfl, HDone.out 2 ix w3 w4 (Kp.refl _ _) G4 K4 (by trivial) (by trivial) (by trivial)⟩
    · rw [if_neg hin] at hs
      have d1 : dm = false := by rw [Hdm.out, decide_eq_false hin]
      subst d1
      have hc2 := HX3.out.at_.c2
      obtain ⟨hw, hhw⟩ : ∃ x, x = S.ms.any (sameI b) := ⟨_, rfl⟩
      rw [← hhw] at hs
      have HHas := hide (qf_has HX3.out.qf HS3.out HB.out hw hhw)
      have Hs := hide hs
      have Hokb := hide hokb
      clear hs hhw hin hokb Hix
      go_wp2_with fail
      refine HHas.out.mono ?_
      rintro ee w4 ⟨rfl, K4⟩
      have HK4 := hide K4
      have HX4 := hide (HX3.out.on K4)
      have HS4 := hide (HS3.out.kept K4 (by simp))
      have G4 := hide (K4.heap G3.out (by simp))
      clear HHas K4 hc2
      cases hw
      · have hs := Hs.out
        rw [if_neg (by decide)] at hs
        obtain ⟨nm, hnm⟩ : ∃ n, n = S.ms.length := ⟨_, rfl⟩
        have HLen := hide (fun c => qf_len ((HX4.out.on (kp_drewN w4 c)).qf) nm hnm)
        have hc2 := HX4.out.at_.c2
        have hc3 := HX4.out.at_.c3
        obtain ⟨rm, hrm⟩ : ∃ r, r = S.room := ⟨_, rfl⟩
        rw [← hrm] at hc3
        rw [← hnm, ← hrm] at hs
        by_cases hfull : rm ≤ (nm : Int)
        · rw [if_pos hfull] at hs
          simp only [Prod.mk.injEq] at hs
          obtain ⟨e1, e2, e3⟩ := hs
          have e3' := e3
          subst e1 e2
          have Hfull : decide (rm ≤ (nm : Int)) = true := decide_eq_true hfull
          clear hnm hrm e3 Hs
          go_wp2_with fail
          go_quiet (first | (go_at_call 47; exact Calls.quiet_of_same (HLen.out _)))
          have G5 := hide ((kp_drewN w4 nq).heap G4.out (by simp))
          go_wp2_with (refine wpList_store_flat rfl 57 (.tmp 6) (.tmp 55) rfl w.heap.size 0 rfl _ _ [.int .i64 3, .int .i64 0] G5.out rfl (by simp) Tryz.ansSize (by simp [Value.oneCell']) #[.int .i64 3, .int .i64 0] rfl ?_; intro w6 G6 K6)
          refine bodyPost_ret (results_flat1 rfl _ rfl G6 Tryz.underlying57 rfl Tryz.ansSize) rfl ?_
          exact ⟨rfl, HDone.out 3 0 _ w6 (HK4.out.trans (kp_drewN w4 nq)) G6 K6 e3'.symm rfl rfl⟩
        · rw [if_neg hfull] at hs
          have Hfull : decide (rm ≤ (nm : Int)) = false := decide_eq_false hfull
          have hfit : (S.q.ms.length : Int) < S.q.room := by show (S.ms.length : Int) < S.room; omega
          have Hfit := hide hfit
          obtain ⟨er, d', hadd⟩ : ∃ er d', S.d.add (recP b) = (er, d') := ⟨_, _, rfl⟩
          rw [hadd] at hs
          have Hadd := hide hadd
          have Hs2 := hide hs
          clear hnm hrm hs Hs hfull hfit hadd
          go_wp2_with fail
          go_quiet (first | (go_at_call 47; exact Calls.quiet_of_same (HLen.out _)))
          have HKW := hide ((HKB.out.trans HK4.out).trans (kp_drewN w4 nq))
          have HXW := hide (HX4.out.on (kp_drewN w4 nq))
          have HSW := hide (HS4.out.kept (kp_drewN w4 nq) (by simp))
          have GW := hide ((kp_drewN w4 nq).heap G4.out (by simp))
          have hszW : w.heap.size < (w4.drewN nq).heap.size := Nat.lt_of_lt_of_le Hsz3.out (HK4.out.trans (kp_drewN w4 nq)).size
          obtain ⟨W, hW⟩ : ∃ W, W = w4.drewN nq := ⟨_, rfl⟩
          rw [← hW] at HKW HXW HSW GW hszW ⊢
          have HszW := hide hszW
          clear hW hc2 hc3 Hfull HLen HK4 HX4 HS4 G4 Hsz3 HS3 HX3 G3 HKB hszW
          have hc1 := HXW.out.at_.c1
          obtain ⟨en, hen⟩ : ∃ en : Int, en = if er then 0 else 13 := ⟨_, rfl⟩
          have hb125 := okM_short HB.out Hokb.out
          have Hb125 := hide hb125
          have HAdd := hide (jx_add HXW.out.jx HSW.out HB.out (by omega) Hm.out er Hadd.out en hen)
          have Hen := hide hen
          clear hen hb125
          refine hide ?_
          go_wp2_with fail
          refine HAdd.out.mono ?_
          rintro ee w5 ⟨rfl, F3, J5, T5⟩
          have hx5 := HXW.out.stepJ T5 J5
          have HX5 := hide hx5
          have HT5 : Hid (Stp g.tot w w5 (g.upd 3 F3).tot) := (Stp.mid HKW.out).trans T5.one
          have nR : ¬ g.tot w.heap.size := fun e => by have := Hlt.out _ e; omega
          have G5 := hide (T5.one.heap GW.out nR)
          have nR5 := hide (T5.one.off HszW.out nR)
          have HS5 : Hid (Sl w5 (.slice ab nb cb) b) := by
            obtain ⟨T, hT, kT⟩ := T5.kp
            exact HSW.out.kept kT (fun i hi hm => Hvb.out i hi ⟨3, hT i hm⟩)
          have Hsz5 : Hid (w.heap.size < w5.heap.size) := hide (Nat.lt_of_lt_of_le HszW.out T5.size)
          clear HAdd J5 T5 hx5 hc1 HXW HSW GW HszW HKW nR
          cases er
          · obtain rfl : en = 13 := by rw [Hen.out]; rfl
            have hs := Hs2.out
            rw [if_neg (by decide)] at hs
            simp only [Prod.mk.injEq] at hs
            obtain ⟨e1, e2, e3⟩ := hs
            subst e1 e2 e3
            clear Hs2
            go_wp2_with (refine wpList_store_flat rfl 57 (.tmp 6) (.tmp 64) rfl w.heap.size 0 rfl _ _ [.int .i64 3, .int .i64 0] G5.out rfl (by simp) Tryz.ansSize (by simp [Value.oneCell']) #[.int .i64 3, .int .i64 0] rfl ?_; intro w6 G6 K6)
            refine bodyPost_ret (results_flat1 rfl _ rfl G6 Tryz.underlying57 rfl Tryz.ansSize) rfl ?_
            refine ⟨rfl, g.upd 3 F3, ⟨jj, q, vr, HX5.out.beside K6 (fun i hi => ?_)⟩, HT5.out.aside K6 (fun i hi => ?_)⟩
            · simp at hi
              subst hi
              exact ⟨HH.out.kp.size, nR5.out⟩
            · simp at hi
              omega
          · obtain rfl : en = 0 := by rw [Hen.out]; rfl
            have hs := Hs2.out
            rw [if_pos rfl] at hs
            simp only [Prod.mk.injEq] at hs
            obtain ⟨e1, e2, e3⟩ := hs
            have HE2 := hide e2
            have HE3 := hide e3
            subst e1
            clear Hs2 e2 e3
            have hc2 := HX5.out.at_.c2
            have HPut := hide (qf_put HX5.out.qf HX5.out.ok.kp.size now Hfit.out HS5.out HB.out (by have := Hb125.out; omega) Hn0.out Hn1.out ⟨S.room, S.size, S.wait, S.ms ++ [⟨b, now⟩]⟩ rfl)
            go_wp2_with fail
            refine HPut.out.mono ?_
            rintro ee w6 ⟨rfl, F4, Q6, T6⟩
            have HX6 := hide (HX5.out.stepQ T6 Q6)
            have HT6 : Hid (Stp g.tot w w6 ((g.upd 3 F3).upd 4 F4).tot) := HT5.out.trans T6.one
            have G6 := hide (T6.one.heap G5.out nR5.out)
            have nR6 := hide (T6.one.off Hsz5.out nR5.out)
            have HS6 : Hid (Sl w6 (.slice ab nb cb) b) := by
              obtain ⟨T, hT, kT⟩ := T6.kp
              refine HS5.out.kept kT (fun i hi hm => ?_)
              rcases HT5.out.2 i ⟨4, hT i hm⟩ with h1 | h1
              · exact Hvb.out i hi h1
              · have := HS.out.lt (fun e => by have := Hokb.out; rw [e] at this; exact absurd this (by decide)) i hi; omega
            have Hsz6 : Hid (w.heap.size < w6.heap.size) := hide (Nat.lt_of_lt_of_le Hsz5.out T6.size)
            clear HPut Q6 T6 hc2 HX5 HT5 G5 nR5 HS5 Hsz5
            obtain ⟨g6, hg6⟩ : ∃ x, x = (g.upd 3 F3).upd 4 F4 := ⟨_, rfl⟩
            rw [← hg6] at HX6 HT6 nR6
            clear hg6
            obtain ⟨X, hX⟩ : ∃ X, X = strOfNums b := ⟨_, rfl⟩
            have cv1 := HS6.out.conv (P := Tryz.prog) 28 9 5 Tryz.underlying28 Tryz.underlying5 Tryz.underlying9
            have cv2 := (HS6.out.kept (kp_drew w6) (by simp)).conv (P := Tryz.prog) 28 9 5 Tryz.underlying28 Tryz.underlying5 Tryz.underlying9
            rw [← hX] at cv1 cv2
            obtain ⟨nr, hnr⟩ : ∃ n, n = S.rc.length := ⟨_, rfl⟩
            obtain ⟨ar, cr, hvr⟩ := HX6.out.rr.shape
            have hvr : vr = .slice ar nr cr := by rw [hnr]; exact hvr
            subst hvr
            have hc4 := HX6.out.at_.c4
            have hf4 := HX6.out.at_.f 4
            have hlt := HX6.out.at_.lt
            have Hnp : Hid (p ∉ (Value.slice ar nr cr).ownBlock.toList) := fun hm => by
              have := HX6.out.ok.ap 1 2 p HX6.out.f1 (HX6.out.f2 p (by simpa [Option.mem_toList] using hm))
              omega
            have hfa : ∀ o, (w6.alloc o).frozen? ⟨p, 4, none⟩ = false := fun o => by rw [World.frozen?_alloc_old _ _ _ (by simp; omega)]; exact hf4
            have hca : ∀ o, (w6.alloc o).cell? ⟨p, 4, none⟩ = some (.slice ar nr cr) := fun o => (World.cell?_alloc_lt _ _ _ (by exact hlt)).trans hc4
            have HR0 := hide (HX6.out.rr.kept (((Kp.refl [] w6).alloc (.cells #[.string X] 9)).drew) (by simp))
            have HC0 : Hid (((w6.alloc (.cells #[.string X] 9)).drew).cell? ⟨w6.heap.size, 0, none⟩ = some (.string (strOfNums b))) := by
              show (w6.alloc (.cells #[.string X] 9)).cell? ⟨w6.heap.size, 0, none⟩ = _
              rw [World.cell?_alloc_at _ _ _ _ rfl, hX]; rfl
            have HZ0 : Hid (w0.heap.size ≤ ((w6.alloc (.cells #[.string X] 9)).drew).heap.size) := hide (HX6.out.ok.kp.trans (((Kp.refl [] w6).alloc (.cells #[.string X] 9)).drew)).size
            have HKD : Hid (Kp [] w6 ((w6.alloc (.cells #[.string X] 9)).drew)) := ((Kp.refl [] w6).alloc (.cells #[.string X] 9)).drew
            have HNr := hide hnr
            have hnr1000 : nr ≤ 1000 := by rw [hnr]; exact Hrc.out
            have HXr := hide hX
            clear hX hnr hvr
            go_wp2_with fail
            go_region_law ((refine step_appU (by rfl) (.tmp 76) (.tmp 79) (by rfl) w0.heap.size (.slice ar nr cr) S.rc (by rfl) (by exact HR0.out) w6.heap.size 1 b (by rfl) (by exact HC0.out) (by have := Hrc.out; omega) (by exact HZ0.out) ?_; intro ao m c w7 R7 S7; obtain ⟨X8, T8⟩ := HX6.out.stepR (w1 := w7) (v' := .slice ao m c) (x := b) R7 ⟨HB.out, by have := Hb125.out; omega⟩ ((HKD.out.mono (by simp)).trans S7.1) (fun k hk => (S7.2 k hk).imp id (fun h => Nat.le_trans HKD.out.size h)); have x7 := (HX6.out.on HKD.out).at_.kept S7.1 Hnp.out; have hc7 := x7.c4; have hf7 := x7.f 4; have HX8 := hide X8; have HT8 := hide T8; clear R7 S7 X8 T8 x7))
            all_goals
              have HZ := hide (frcs_any ⟨jj, q, _, HX8.out⟩ (nr + 1) (by have := HNr.out; simp; omega))
              have hw1 : IntKind.i64.wrap (((nr + 1 : Nat) : Int) - 1) = (nr : Int) := by simp [IntKind.wrap, IntKind.signed, IntKind.bits]; omega
              have G8 := hide (HT8.out.heap G6.out nR6.out)
              have nR8 := hide (HT8.out.off Hsz6.out nR6.out)
              have HT9 := hide (HT6.out.trans HT8.out)
              clear hc7 hf7
              go_wp2_with fail
              refine HZ.out.mono ?_
              rintro ee w9 ⟨rfl, hw9⟩
              subst w9
              clear HZ
              go_wp2_with (refine wpList_store_flat rfl 57 (.tmp 6) (.tmp 86) rfl w.heap.size 0 rfl _ _ [.int .i64 1, .int .i64 (nr : Int)] G8.out rfl (by simp) Tryz.ansSize (by simp [Value.oneCell']) #[.int .i64 1, .int .i64 (nr : Int)] rfl ?_; intro wz Gz Kz)
              refine bodyPost_ret (results_flat1 rfl _ rfl Gz Tryz.underlying57 rfl Tryz.ansSize) rfl ?_
              have e2 := HE2.out
              have e3 := HE3.out
              have e4 := HNr.out
              rw [← e4] at e2
              subst e2 e3
              refine ⟨rfl, _, ⟨jj, q, _, HX8.out.beside Kz (fun i hi => ?_)⟩, HT9.out.aside Kz (fun i hi => ?_)⟩
              · simp at hi
                subst hi
                exact ⟨HH.out.kp.size, nR8.out⟩
              · simp at hi
                omega
      · have hs := Hs.out
        rw [if_pos rfl] at hs
        simp only [Prod.mk.injEq] at hs
        obtain ⟨e1, e2, e3⟩ := hs
        have HR := hide (frcpt_any ⟨jj, q, vr, HX4.out⟩ (.slice ab nb cb) b HS4.out HB.out (by have := Hrc.out; omega) n e2.symm)
        subst e1 e3
        clear e2 Hs
        go_wp2_with fail
        refine HR.out.mono ?_
        rintro ee w5 ⟨rfl, K5⟩
        have HK5 := hide (HK4.out.trans K5)
        have G5 := hide (K5.heap G4.out (by simp))
        clear HR K5
        go_wp2_with (refine wpList_store_flat rfl 57 (.tmp 6) (.tmp 43) rfl w.heap.size 0 rfl _ _ [.int .i64 1, .int .i64 n] G5.out rfl (by simp) Tryz.ansSize (by simp [Value.oneCell']) #[.int .i64 1, .int .i64 n] rfl ?_; intro w6 G6 K6)
        refine bodyPost_ret (results_flat1 rfl _ rfl G6 Tryz.underlying57 rfl Tryz.ansSize) rfl ?_
        exact ⟨rfl, HDone.out 1 n _ w6 HK5.out G6 K6 (by trivial) (by trivial) (by trivial)⟩
end
end Go.Proofs.YteabdojjllfcpaaGreat

/-
  The contract of package front: Step.
-/
namespace Go.Proofs.YteabdojjllfcpaaGreat
open Go.RowKit
open Go.Proofs
set_option linter.unusedVariables false
/-- leaves one behind the other. -/
def seqF (a n : Nat) : List Int := (List.range n).map (fun i => ((a + i : Nat) : Int))
theorem allU_disj {its xs : List (List Int)} (h : (its ++ xs).Nodup) : allU its xs = its ++ xs := by
  induction xs generalizing its with
  | nil => simp [allU]
  | cons x xs ih =>
    have hx : x ∉ its := fun hm => (List.nodup_append.1 h).2.2 x hm x (by simp) rfl
    have e : its ++ x :: xs = (its ++ [x]) ++ xs := by simp
    rw [allU_cons, insU_new hx, ih (by rw [← e]; exact h), e]
theorem newU_disj {its xs : List (List Int)} (h : (its ++ xs).Nodup) : newU its xs = xs := by
  unfold newU
  rw [allU_disj h, List.drop_left]
theorem nsU_disj {its xs : List (List Int)} (h : (its ++ xs).Nodup) : nsU its xs = seqF its.length xs.length := by
  unfold nsU numU seqF
  rw [allU_disj h, List.map_map]
  refine List.ext_getElem (by simp) (fun i h1 h2 => ?_)
  have hi : i < xs.length := by simpa using h1
  have hl : its.length + i < (its ++ xs).length := by rw [List.length_append]; omega
  have e : xs[i] = (its ++ xs)[its.length + i] := by
    rw [List.getElem_append_right (by omega)]
    simp
  simp only [List.getElem_map, Function.comp, List.getElem_range]
  rw [e, List.Nodup.idxOf_getElem h]
section
variable {w0 w : World} {p l pd pl pk : Nat} {S : FS} {L : LS} {g f : Fps}
set_option maxRecDepth 100000 in
set_option maxHeartbeats 8000000 in
theorem fstep_due (h : Bo w0 w p l pd pl pk S L g f) (now : Int) (h0 : -9223372036854775808 ≤ now) (h1 : now ≤ 9223372036854775807) (hd : S.q.due now = true) (k : Nat) (hk : k = min S.size.toNat S.ms.length) (hk0 : 0 < k) (xs : List (List Int)) (hxs : xs = (S.ms.take k).map It.bs) (hnd : (L.its ++ xs).Nodup) (h256 : (L.its ++ xs).length ≤ 256) (hmj : L.mj ≤ 1000) (hms : S.ms.length ≤ 500) (er : Bool) (dd' : Dk) (he : L.dd.add (recP (batU xs)) = (er, dd')) (en : Int) (hen : en = if er then 0 else 13) :
    Calls Tryz.prog 23 #[.pointer (some ⟨p, 0, none⟩), .int .i64 now] w fun e w' => ∃ u, e = .returned (.tuple #[u, .int .i64 en]) ∧ (if er then RowI w' w.heap.size u (seqF L.its.length k) else u = .slice none 0 0) ∧ ∃ g' f', Bo w0 w' p l pd pl pk { S with ms := if er then S.ms.drop k else xs.map evr ++ S.ms.drop k } { L with dd := dd', mj := L.mj + 1, its := if er then L.its ++ xs else L.its } g' f' ∧ Stp (two2 g f) w w' (two2 g' f') ∧ ∀ i, u.ownBlock = some i → ¬ two2 g' f' i := by
  have hfit := h.fr.fit
  have hxk : xs.length = k := by rw [hxs]; simp; omega
  have hx8 : xs.length ≤ 8 := by have := hfit.s1; have h8 : S.q.size = S.size := rfl; rw [h8] at this; omega
  have hxB : ∀ x ∈ xs, Bs x ∧ x.length ≤ 1000 := fun x hx => by
    rw [hxs] at hx
    obtain ⟨e, he, rfl⟩ := List.mem_map.1 hx
    have := hfit.its e (List.mem_of_mem_take he)
    exact ⟨this.1, this.2.1⟩
  have hbat : (batU xs).length ≤ 65535 := by
    have h2 := batU_len xs 1000 (fun x hx => (hxB x hx).2)
    have h3 : xs.length * (2 + 1000) ≤ 8 * (2 + 1000) := Nat.mul_le_mul_right _ hx8
    omega
  have hxne : xs ≠ [] := fun e => by rw [e] at hxk; simp at hxk; omega
  obtain ⟨j, q, vr, hx⟩ := id h.fr
  have hc := hx.at_.c2
  have HD := hide (qf_due hx.qf now h0 h1 true hd.symm)
  have HH := hide h
  have HX := hide hx
  have HK := hide hk
  have HXS := hide hxs
  have HXB := hide hxB
  have HND := hide hnd
  have H256 := hide h256
  have HMJ := hide hmj
  have HMS := hide hms
  have HE := hide he
  have HEn := hide hen
  have HBat := hide hbat
  have HNe := hide hxne
  have HXK := hide hxk
  have HX8 := hide hx8
  have HK0 := hide hk0
  clear hx h0 h1 hd h hk hxs hxB hnd h256 hmj hms he hen hbat hxne hxk hx8 hfit hk0
  go_enter Tryz.func23, Tryz.ntmps23
  go_wp2_with fail
  refine HD.out.mono ?_
  rintro ee w1 ⟨rfl, K1⟩
  have hx1 := HX.out.on K1
  have hc2 := hx1.at_.c2
  have HX1 := hide hx1
  have HK1 := hide K1
  have HTk := hide (qf_take hx1.qf k HK.out ⟨S.room, S.size, S.wait, S.ms.drop k⟩ rfl)
  clear HD K1 hx1 hc
  go_wp2_with fail
  refine HTk.out.mono ?_
  rintro ee w2 ⟨ao, c, rfl, TL, F4, Q2, T2⟩
  have TL : Tl w1.heap.size w2 (.slice ao k c) xs := by rw [HXS.out]; exact TL
  obtain ⟨li, hLi, hli⟩ := TL.lists (by have := HX8.out; omega)
  have hB2 := (HH.out.on HK1.out).stepF (g' := g.upd 4 F4) ⟨j, q, vr, HX1.out.stepQ T2 Q2⟩ T2.one
  have HB2 := hide hB2.1
  have HS2 := hide ((Stp.mid (F := two2 g f) HK1.out).trans hB2.2)
  have HTL := hide TL
  have hc0 := (HX1.out.stepQ T2 Q2).at_.c0
  have hAdd := uadd_any HB2.out.lg (.slice ao k c) li xs hli hLi (fun x hx => by have := (HXB.out x hx).2; omega) (by have := HX8.out; omega) (by rw [allU_disj HND.out]; exact H256.out) (by rw [newU_disj HND.out]; exact HNe.out) HMJ.out (by rw [newU_disj HND.out]; exact HBat.out) er dd' (by rw [newU_disj HND.out]; exact HE.out)
  rw [nsU_disj HND.out, allU_disj HND.out, HXK.out] at hAdd
  have HAdd := hide hAdd
  clear HTk TL Q2 T2 hB2 hc2 hAdd hLi hli
  go_wp2_with fail
  refine HAdd.out.mono ?_
  rintro ee w3 ⟨u, en', rfl, he', hu, f', L3, T3, hof⟩
  have he2 : en' = en := by rw [he', HEn.out]
  subst he2
  have hB3 := HB2.out.stepL L3 T3
  have HB3 := hide hB3.1
  have HS3 := hide (HS2.out.trans hB3.2)
  have HU := hide hu
  have HOf := hide hof
  have HT3 : Hid (Stp f.tot w2 w3 f'.tot) := T3
  clear HAdd L3 T3 hB3 he' hu hof hc0
  cases er
  · obtain rfl : en' = 13 := by rw [HEn.out]; rfl
    have hu := HU.out
    simp only [Bool.false_eq_true, if_false] at hu
    subst hu
    obtain ⟨j3, q3, vr3, hx3⟩ := id HB3.out.fr
    have hc2 := hx3.at_.c2
    have HX3 := hide hx3
    have HTL3 : Hid (Tl w1.heap.size w3 (.slice ao k c) xs) := by
      obtain ⟨T, hT, kT⟩ := HT3.out.kp
      exact HTL.out.kept kT (fun i hi => ((HH.out.on HK1.out).lg.lt i (hT i hi)).2)
    obtain ⟨li, hLi, hli⟩ := HTL3.out.lists (by have := HX8.out; omega)
    have hll : li.length = k := by have := congrArg List.length hli; rw [List.length_map] at this; rw [this]; exact HXK.out
    have HBk := hide (qf_back hx3.qf hx3.ok.kp.size li hLi (fun x hx => by
      have h1 : x.2 ∈ li.map (·.2) := List.mem_map.2 ⟨x, hx, rfl⟩
      rw [hli] at h1
      exact (HXB.out x.2 h1).2) (by show (S.ms.drop k).length + li.length ≤ 1000; have := HMS.out; have := HX8.out; have := HXK.out; rw [List.length_drop]; omega) ⟨S.room, S.size, S.wait, xs.map evr ++ S.ms.drop k⟩ (by rw [← hli]; simp [FS.q]))
    clear hx3 hLi hli hll
    go_wp2_with fail
    refine HBk.out.mono ?_
    rintro ee w4 ⟨rfl, F5, Q4, T4⟩
    have hB4 := HB3.out.stepF ⟨j3, q3, vr3, HX3.out.stepQ T4 Q4⟩ T4.one
    have HB4 := hide hB4.1
    have HS4 := hide (HS3.out.trans hB4.2)
    clear HBk Q4 T4 hB4 hc2
    go_wp2_with fail
    go_ret2
    exact ⟨.slice none 0 0, rfl, rfl, _, f', HB4.out, HS4.out, fun i hi => by cases hi⟩
  · obtain rfl : en' = 0 := by rw [HEn.out]; rfl
    go_wp2_with fail
    go_ret2
    have hu := HU.out
    simp only [if_true] at hu
    have hsz : w.heap.size ≤ w2.heap.size := HS2.out.size
    refine ⟨u, rfl, owns_rebase hu (fun i hi => Nat.le_trans hsz (hu.lt hi).1), _, f', HB3.out, HS3.out, fun i hi e => ?_⟩
    rcases e with e | e
    · have h1 := (HB2.out.fr.lt i e).2
      have h2 := (hu.lt hi).1
      omega
    · exact HOf.out i hi e
end
end Go.Proofs.YteabdojjllfcpaaGreat

/-
  The contract of the reference ledger's Read.
-/
namespace Go.Proofs.YteabdojjllfcpaaGreat
open Go.RowKit
open Go.Proofs
set_option linter.unusedVariables false
/-- what is written elsewhere, or where an empty one lies, makes no odds. -/
theorem RowsQ.apart {w w' : World} {base : Nat} {v : Value} {l : List (Value × List Int)} {S : List Nat} (h : RowsQ w base v l) (k : Kp S w w') (h1 : ∀ i, v.ownBlock = some i → i ∉ S) (h2 : ∀ x ∈ l, ∀ i, x.1.ownBlock = some i → i ∈ S → x.2 = []) : RowsQ w' base v l :=
  ⟨⟨h.1.1.kept k h1, fun x hx => ⟨(h.1.2 x hx).1.apart k (h2 x hx), (h.1.2 x hx).2⟩⟩, h.2⟩
/-- a reference ledger that has items alone. -/
def RLi (w : World) (p : Nat) (vi : Value) : Prop := w.heap[p]? = some (.cells #[vi, .pointer none, .int .i64 0, .int .i64 0, .slice none 0 0, .int .i64 0, .slice none 0 0, .slice none 0 0, .bool false] 152 (0, 0))
theorem RLi.c0 {w : World} {p : Nat} {vi : Value} (h : RLi w p vi) : w.cell? ⟨p, 0, none⟩ = some vi := by rw [cell_of_row w p 0 _ _ _ h]; rfl
theorem RLi.f {w : World} {p : Nat} {vi : Value} (h : RLi w p vi) (i : Nat) : w.frozen? ⟨p, i, none⟩ = false := frozen_of_row w p i _ _ h
theorem RLi.set {w : World} {p : Nat} {vi : Value} (h : RLi w p vi) (u : Value) : RLi (w.setCell ⟨p, 0, none⟩ u) p u := by
  unfold RLi
  simpa using heap_setCell_same w p 0 _ _ u h
theorem RLi.kept {w w' : World} {p : Nat} {vi : Value} {S : List Nat} (h : RLi w p vi) (k : Kp S w w') (hp : p ∉ S) : RLi w' p vi := k.heap h hp
end Go.Proofs.YteabdojjllfcpaaGreat

/-
  The reference's ledger: what it is, New, Root.
-/
namespace Go.Proofs.YteabdojjllfcpaaGreat
open Go.RowKit
open Go.Proofs
set_option linter.unusedVariables false
/-- the blocks that are not the items' row's: the ledger's, and the reference's own. -/
def FP (F : Nat → Prop) (p : Nat) : Nat → Prop := fun j => F j ∨ j = p
def FG (F : Nat → Prop) (p : Nat) (v : Value) : Nat → Prop := fun j => F j ∨ j = p ∨ v.ownBlock = some j
section
variable {w w' w0 : World} {F F' : Nat → Prop} {p : Nat} {v v' : Value}
theorem stp_fp (T : Stp F w w' F') : Stp (FP F p) w w' (FP F' p) := by
  obtain ⟨⟨U, hU, k⟩, h2⟩ := T
  exact ⟨⟨U, fun i hi => .inl (hU i hi), k⟩, fun i hi => hi.elim (fun h => (h2 i h).imp .inl id) (fun h => .inl (.inr h))⟩
theorem stp_fg (T : Stp F w w' F') : Stp (FG F p v) w w' (FG F' p v) := by
  obtain ⟨⟨U, hU, k⟩, h2⟩ := T
  exact ⟨⟨U, fun i hi => .inl (hU i hi), k⟩, fun i hi => hi.elim (fun h => (h2 i h).imp .inl id) (fun h => .inl (.inr h))⟩
end
/-- the reference's ledger at block p: its items' row, next key, what was published last. -/
structure Rg (w0 w : World) (F : Nat → Prop) (p : Nat) (vi : Value) (seed : List Int) (its : List (List Int)) (n : Nat) (la : Option (Nat × Nat)) (og base : Nat) (sz ix : Int) (ar : Option Addr) (mr cr : Nat) (ap : Option Addr) (np cp : Nat) (aq : Option Addr) (nq cq : Nat) (lA : List (Value × List Int)) : Prop where
  hp : w.heap[p]? = some (.cells #[vi, .pointer (some ⟨og, 0, none⟩), .int .i64 n, .int .i64 sz, .slice ar mr cr, .int .i64 ix, .slice ap np cp, .slice aq nq cq, .bool la.isSome] 152 (0, 0))
  la : ∀ a, la = some a → sz = a.1 ∧ Kt w (FG F p vi) (fun w2 => SgV w2 (.agg #[.int .i64 sz, .slice ar mr cr, .int .i64 ix, .slice ap np cp, .slice aq nq cq]) (sgU seed its a))
  ow : OwN (FG F p vi) w base og seed 5
  al : Al w0 w (FP F p) vi lA
  it : lA.map (·.2) = its
  lo : w0.heap.size ≤ p
  lt : p < w.heap.size
  nf : ¬ F p
def Rf (w0 w : World) (F : Nat → Prop) (p : Nat) (vi : Value) (seed : List Int) (its : List (List Int)) (n : Nat) (la : Option (Nat × Nat)) : Prop :=
  ∃ og base sz ix ar mr cr ap np cp aq nq cq lA, Rg w0 w F p vi seed its n la og base sz ix ar mr cr ap np cp aq nq cq lA
theorem Rg.step {w0 w w' : World} {F F' : Nat → Prop} {p : Nat} {vi : Value} {seed : List Int} {its : List (List Int)} {n : Nat} {la : Option (Nat × Nat)} {og base : Nat} {sz ix : Int} {ar : Option Addr} {mr cr : Nat} {ap : Option Addr} {np cp : Nat} {aq : Option Addr} {nq cq : Nat} {lA : List (Value × List Int)} (h : Rg w0 w F p vi seed its n la og base sz ix ar mr cr ap np cp aq nq cq lA) (T : Stp F w w' F') : Rg w0 w' F' p vi seed its n la og base sz ix ar mr cr ap np cp aq nq cq lA :=
  ⟨T.heap h.hp h.nf, fun a ha => ⟨(h.la a ha).1, (h.la a ha).2.step (stp_fg T)⟩, h.ow.step (stp_fg T), h.al.step (stp_fp T), h.it, h.lo, Nat.lt_of_lt_of_le h.lt T.size, T.off h.lt h.nf⟩
theorem Rf.step {w0 w w' : World} {F F' : Nat → Prop} {p : Nat} {vi : Value} {seed : List Int} {its : List (List Int)} {n : Nat} {la : Option (Nat × Nat)} (h : Rf w0 w F p vi seed its n la) (T : Stp F w w' F') : Rf w0 w' F' p vi seed its n la := by
  obtain ⟨og, base, sz, ix, ar, mr, cr, ap, np, cp, aq, nq, cq, lA, h⟩ := h
  exact ⟨og, base, sz, ix, ar, mr, cr, ap, np, cp, aq, nq, cq, lA, h.step T⟩
set_option maxRecDepth 100000 in
set_option maxHeartbeats 2000000 in
/-- a new one. -/
theorem r15new_any (w0 : World) (F : Nat → Prop) (b : Nat) (vs : Value) (seed : List Int) (w : World) (hS : Sl w vs seed) (hB : Bs seed) (hl : seed.length = 32) (hs : ∀ q, vs.ownBlock = some q → b ≤ q) (hF : ∀ q, F q → q < b) (hb : b ≤ w.heap.size) (h0 : w0.heap.size ≤ b) :
    Calls Tryz.prog 54 #[vs] w fun e w' => ∃ p, e = .returned (.pointer (some ⟨p, 0, none⟩)) ∧ Rf w0 w' F p (.slice none 0 0) seed [] 0 none ∧ Kp [] w w' := by
  have HN := hide (new_ownS vs seed w hS hB hl)
  have HSs := hide hs
  have HF := hide hF
  have HB := hide hb
  have HL := hide hl
  have H0 := hide h0
  clear hS hB hl hs hF hb h0
  go_enter Tryz.func54, Tryz.ntmps54
  go_wp2_with fail
  refine HN.out.mono ?_
  rintro ee w1 ⟨og, base, rfl, ⟨sa, sn, sc, rfl, O⟩, K, hg⟩
  obtain ⟨w2, hw2⟩ : ∃ y, y = w1.alloc (.cells #[.slice none 0 0, .pointer (some ⟨og, 0, none⟩), .int .i64 0, .int .i64 0, .slice none 0 0, .int .i64 0, .slice none 0 0, .slice none 0 0, .bool false] 152) := ⟨_, rfl⟩
  have HK2 : Hid (Kp [] w1 w2) := hide (by rw [hw2]; exact (Kp.refl [] _).alloc _)
  have HR : Hid (Rf w0 w2 F w1.heap.size (.slice none 0 0) seed [] 0 none) := hide (by
    have hs2 : w2.heap.size = w1.heap.size + 1 := by rw [hw2]; simp
    have hsz := K.size
    have hb := HB.out
    have hne : seed ≠ [] := fun e => by have := HL.out; rw [e] at this; cases this
    have hFo : ∀ j, F j → j < b := HF.out
    have O1 : OwN F w1 base og seed 5 := O.toN hne (b := b) (by omega) HSs.out hFo
    have T : Stp F w1 w2 (FG F w1.heap.size (.slice none 0 0)) := ⟨⟨[], by simp, HK2.out⟩, fun i hi => by
      rcases hi with h | h | h
      · exact .inl h
      · exact .inr (by omega)
      · cases h⟩
    refine ⟨og, base, 0, 0, none, 0, 0, none, 0, 0, none, 0, 0, [], ⟨by rw [hw2]; exact heap_alloc_new w1 _, (fun a ha => by cases ha), O1.step T, al_nil _ _ _, rfl, ?_, by omega, fun e => by have := hFo _ e; omega⟩⟩
    have := H0.out; omega)
  have HK := hide (K.trans HK2.out)
  have HW := hide hw2
  clear HN O K hg hw2
  go_wp2_with fail
  go_ret
  rw [← HW.out]
  exact ⟨_, rfl, HR.out, HK.out⟩
end Go.Proofs.YteabdojjllfcpaaGreat

/-
  The laws of front: fresh, on; a front and its ledger are opened on new disks.
-/
namespace Go.Proofs.YteabdojjllfcpaaGreat
open Go.RowKit
open Go.Proofs
set_option linter.unusedVariables false
theorem ffresh_any (w : World) : Calls Tryz.prog 10 #[] w fun e w' => ∃ p, e = .returned (.pointer (some ⟨p, 0, none⟩)) ∧ Nw w w' p (.slice none 0 0) (dkOn []) := by
  have HN := hide (nw_new 1048576 w (by omega) (by omega))
  go_enter Tryz.func10, Tryz.ntmps10
  go_wp2_with fail
  refine HN.out.mono ?_
  rintro ee w1 ⟨p, rfl, N1⟩
  have HN1 := hide N1
  clear HN N1
  go_wp2_with fail
  go_ret
  exact ⟨p, rfl, HN1.out⟩
/-- the law's world: eleven cells. -/
def Wd (w : World) (x : Nat) (vf vl vd ve vk : Value) (r s t : Int) (vw vrc vq : Value) : Prop := w.heap[x]? = some (.cells #[vf, vl, vd, ve, vk, .int .i64 r, .int .i64 s, .int .i64 t, vw, vrc, vq] 50 (0, 0))
section
variable {w w' : World} {x : Nat} {vf vl vd ve vk vw vrc vq : Value} {r s t : Int}
theorem Wd.lt (h : Wd w x vf vl vd ve vk r s t vw vrc vq) : x < w.heap.size := (Array.getElem?_eq_some_iff.1 h).1
theorem Wd.kept {S : List Nat} (h : Wd w x vf vl vd ve vk r s t vw vrc vq) (k : Kp S w w') (hx : x ∉ S) : Wd w' x vf vl vd ve vk r s t vw vrc vq := k.heap h hx
theorem Wd.c0 (h : Wd w x vf vl vd ve vk r s t vw vrc vq) : w.cell? ⟨x, 0, none⟩ = some vf := by rw [cell_of_row w x 0 _ _ _ h]; rfl
theorem Wd.c1 (h : Wd w x vf vl vd ve vk r s t vw vrc vq) : w.cell? ⟨x, 1, none⟩ = some vl := by rw [cell_of_row w x 1 _ _ _ h]; rfl
theorem Wd.c2 (h : Wd w x vf vl vd ve vk r s t vw vrc vq) : w.cell? ⟨x, 2, none⟩ = some vd := by rw [cell_of_row w x 2 _ _ _ h]; rfl
theorem Wd.c3 (h : Wd w x vf vl vd ve vk r s t vw vrc vq) : w.cell? ⟨x, 3, none⟩ = some ve := by rw [cell_of_row w x 3 _ _ _ h]; rfl
theorem Wd.c4 (h : Wd w x vf vl vd ve vk r s t vw vrc vq) : w.cell? ⟨x, 4, none⟩ = some vk := by rw [cell_of_row w x 4 _ _ _ h]; rfl
theorem Wd.c5 (h : Wd w x vf vl vd ve vk r s t vw vrc vq) : w.cell? ⟨x, 5, none⟩ = some (.int .i64 r) := by rw [cell_of_row w x 5 _ _ _ h]; rfl
theorem Wd.c6 (h : Wd w x vf vl vd ve vk r s t vw vrc vq) : w.cell? ⟨x, 6, none⟩ = some (.int .i64 s) := by rw [cell_of_row w x 6 _ _ _ h]; rfl
theorem Wd.c7 (h : Wd w x vf vl vd ve vk r s t vw vrc vq) : w.cell? ⟨x, 7, none⟩ = some (.int .i64 t) := by rw [cell_of_row w x 7 _ _ _ h]; rfl
theorem Wd.c8 (h : Wd w x vf vl vd ve vk r s t vw vrc vq) : w.cell? ⟨x, 8, none⟩ = some vw := by rw [cell_of_row w x 8 _ _ _ h]; rfl
theorem Wd.c9 (h : Wd w x vf vl vd ve vk r s t vw vrc vq) : w.cell? ⟨x, 9, none⟩ = some vrc := by rw [cell_of_row w x 9 _ _ _ h]; rfl
theorem Wd.c10 (h : Wd w x vf vl vd ve vk r s t vw vrc vq) : w.cell? ⟨x, 10, none⟩ = some vq := by rw [cell_of_row w x 10 _ _ _ h]; rfl
theorem Wd.f (h : Wd w x vf vl vd ve vk r s t vw vrc vq) (i : Nat) : w.frozen? ⟨x, i, none⟩ = false := by
  unfold World.frozen?
  unfold Wd at h
  simp [h]
theorem Wd.s0 (h : Wd w x vf vl vd ve vk r s t vw vrc vq) (u : Value) : Wd (w.setCell ⟨x, 0, none⟩ u) x u vl vd ve vk r s t vw vrc vq := by have := set_at h 0 u; simpa [Wd] using this
theorem Wd.s1 (h : Wd w x vf vl vd ve vk r s t vw vrc vq) (u : Value) : Wd (w.setCell ⟨x, 1, none⟩ u) x vf u vd ve vk r s t vw vrc vq := by have := set_at h 1 u; simpa [Wd] using this
theorem Wd.s10 (h : Wd w x vf vl vd ve vk r s t vw vrc vq) (u : Value) : Wd (w.setCell ⟨x, 10, none⟩ u) x vf vl vd ve vk r s t vw vrc u := by have := set_at h 10 u; simpa [Wd] using this
end
theorem Stp.cong {F F' G G' : Nat → Prop} {w w' : World} (h : Stp F w w' F') (h1 : ∀ i, F i → G i) (h2 : ∀ i, G' i → F' i) : Stp G w w' G' := by
  obtain ⟨⟨S, hS, k⟩, h3⟩ := h
  exact ⟨⟨S, fun i hi => h1 i (hS i hi), k⟩, fun i hi => (h3 i (h2 i hi)).imp (h1 i) id⟩
theorem Stp.side {F F' : Nat → Prop} {w w' : World} (h : Stp F w w' F') (G : Nat → Prop) : Stp (fun i => F i ∨ G i) w w' (fun i => F' i ∨ G i) := by
  obtain ⟨⟨S, hS, k⟩, h3⟩ := h
  refine ⟨⟨S, fun i hi => .inl (hS i hi), k⟩, fun i hi => ?_⟩
  rcases hi with h | h
  · exact (h3 i h).imp .inl id
  · exact .inl (.inr h)
/-- a front without receipts. -/
def fs0 (r s t : Int) : FS := ⟨r, s, t, [], [], dkOn [], 0⟩
section
variable {w0 w : World} {x pd pl pk : Nat} {f : Fps} {F : Nat → Prop} {r s t : Int}
theorem uopen0 (h : Ds w0 w pl pk (dkOn []) (dkOn []) f) (vs : Value) (seed : List Int) (hS : Sl w vs seed) (hB : Bs seed) (hl : seed.length = 32) (hsk : ∀ k, vs.ownBlock = some k → ¬ f.tot k) :
    Calls Tryz.prog 9 #[.pointer (some ⟨pl, 0, none⟩), .pointer (some ⟨pk, 0, none⟩), vs] w fun e w' => ∃ l, e = .returned (.tuple #[.pointer (some ⟨l, 0, none⟩), .int .i64 0]) ∧ ∃ f', Lg w0 w' l pl pk (ls0 seed) f' ∧ LSt w f w' f' :=
  uopen_ok vs seed hS hB hl hsk h.ok h.d rfl (Int.le_refl 0) h.k rfl (Int.le_refl 0) rfl (Nat.zero_le _) (klay_opn 0) (klay_dk 0) rfl opnP_nil rfl (rs := []) (its := []) rfl (by simp) (by simp) (by simp [lenU]) (by simp)
theorem Dx.kp0 {p : Nat} {d : Dk} (h : Dx w0 w p d F) : Kp [] w0 w := by
  obtain ⟨v, h, -⟩ := h
  exact h.kp
set_option maxRecDepth 100000 in
set_option maxHeartbeats 8000000 in
theorem fagain0 (vf vl vw vq : Value) (hW : Wd w x vf vl (.pointer (some ⟨pd, 0, none⟩)) (.pointer (some ⟨pl, 0, none⟩)) (.pointer (some ⟨pk, 0, none⟩)) r s t vw (.slice none 0 0) vq) (hx0 : w0.heap.size ≤ x) (hD : Dx w0 w pd (dkOn []) F) (hFr : ∀ i, F i → w0.heap.size ≤ i ∧ i < w.heap.size) (hS : Ds w0 w pl pk (dkOn []) (dkOn []) f) (hap : ∀ i, F i → ¬ f.tot i) (hxF : ¬ F x) (hxf : ¬ f.tot x) (h1 : 1 ≤ r) (h2 : r ≤ 16) (h3 : 1 ≤ s) (h4 : s ≤ 8) (h5 : 0 ≤ t) (h6 : t ≤ 1000) :
    Calls Tryz.prog 52 #[.pointer (some ⟨x, 0, none⟩)] w fun e w' => e = .returned (.bool true) ∧ ∃ p l g f', Bo w0 w' p l pd pl pk (fs0 r s t) (ls0 (seedX 0)) g f' ∧ Wd w' x (.pointer (some ⟨p, 0, none⟩)) (.pointer (some ⟨l, 0, none⟩)) (.pointer (some ⟨pd, 0, none⟩)) (.pointer (some ⟨pl, 0, none⟩)) (.pointer (some ⟨pk, 0, none⟩)) r s t vw (.slice none 0 0) (.slice none 0 0) ∧ ¬ two2 g f' x ∧ Stp (fun i => F i ∨ f.tot i ∨ i = x) w w' (fun i => two2 g f' i ∨ i = x) := by
  obtain ⟨vrc, hvrc⟩ : ∃ v, v = Value.slice none 0 0 := ⟨_, rfl⟩
  rw [← hvrc] at hW
  have HWd : Hid (∀ w', Kp [] w.drew w' → Wd w' x vf vl (.pointer (some ⟨pd, 0, none⟩)) (.pointer (some ⟨pl, 0, none⟩)) (.pointer (some ⟨pk, 0, none⟩)) r s t vw vrc vq) := fun w' k => hW.kept ((kp_drew w).trans k) (by simp)
  have HD := hide hD
  have HFr := hide hFr
  have HS := hide hS
  have Hap := hide hap
  have HxF := hide hxF
  have Hxf := hide hxf
  have Hx0 := hide hx0
  have Hvrc := hide hvrc
  have HB := hide (And.intro (And.intro h1 h2) (And.intro (And.intro h3 h4) (And.intro h5 h6)))
  have hxw := hW.lt
  have Hxw := hide hxw
  clear hW hD hFr hS hap hxF hxf h1 h2 h3 h4 h5 h6 hx0 hvrc hxw
  go_enter Tryz.func52, Tryz.ntmps52
  go_wp2_with fail
  refine region_grow_call 9 Tryz.mixed [Is (.pointer (some ⟨x, 0, none⟩)), Is (.pointer (some ⟨x, 0, none⟩)), Is (.pointer (some ⟨x, 3, none⟩)), Is (.pointer (some ⟨pl, 0, none⟩)), Is (.pointer (some ⟨x, 0, none⟩)), Is (.pointer (some ⟨x, 0, none⟩)), Is (.pointer (some ⟨x, 4, none⟩)), Is (.pointer (some ⟨pk, 0, none⟩)), RO w.drew.heap.size (seedX 0)] [[(0, none)], [(9, some 0)], [(10, some 1)], [(11, some 2)], [(0, none)], [(13, some 4)], [(14, some 5)], [(15, some 6)], [], [], [(18, some 9)], [(8, some 10)], [(8, some 10)], [(19, some 11)], [(20, some 12)]] (by kernel_rfl) ?_ ?_ _ rfl rfl ?_
  all_goals try simp only [List.take_succ_cons, List.take_zero]
  · simp only [List.mem_cons, List.not_mem_nil, or_false]
    intro R hR
    rcases hR with rfl | rfl | rfl | rfl | rfl | rfl | rfl | rfl | rfl <;> first | exact stable_is _ | exact stable_ro _ _
  · refine steps_cons (fun a w hk hn => ?_) ?_
    · have h0 : a.eval (.tmp 0) = .pointer (some ⟨x, 0, none⟩) := hn.1
      clear hn
      refine wants_plain rfl ?_
      exact grown_move (.tmp 0) rfl h0
    refine steps_cons (fun a w hk hn => ?_) ?_
    · have h9 : a.eval (.tmp 9) = .pointer (some ⟨x, 0, none⟩) := hn.1
      clear hn
      refine wants_plain rfl ?_
      refine grown_run (v := .pointer (some ⟨x, 0, none⟩)) ?_ (Kp.refl _ _) rfl
      obtain ⟨ρ, hρ, hc, hf, hg⟩ := eval_is a
      rw [hρ] at h9 ⊢
      simp [go_sem, h9]
    refine steps_cons (fun a w hk hn => ?_) ?_
    · have h10 : a.eval (.tmp 10) = .pointer (some ⟨x, 0, none⟩) := hn.1
      clear hn
      refine wants_plain rfl ?_
      refine grown_run (v := .pointer (some ⟨x, 3, none⟩)) ?_ (Kp.refl _ _) rfl
      obtain ⟨ρ, hρ, hc, hf, hg⟩ := eval_is a
      rw [hρ] at h10 ⊢
      simp [go_sem, h10]
    refine steps_cons (fun a w hk hn => ?_) ?_
    · have h11 : a.eval (.tmp 11) = .pointer (some ⟨x, 3, none⟩) := hn.1
      clear hn
      refine wants_plain rfl ?_
      refine grown_run (v := .pointer (some ⟨pl, 0, none⟩)) ?_ (Kp.refl _ _) rfl
      have hcell : w.cell? ⟨x, 3, none⟩ = some (.pointer (some ⟨pl, 0, none⟩)) := by rw [cell_of_row w x 3 _ _ _ (HWd.out w hk)]; rfl
      obtain ⟨ρ, hρ, hc, hf, hg⟩ := eval_is a
      rw [hρ] at h11 ⊢
      simp [go_sem, h11, hcell]
    refine steps_cons (fun a w hk hn => ?_) ?_
    · have h0 : a.eval (.tmp 0) = .pointer (some ⟨x, 0, none⟩) := hn.1
      clear hn
      refine wants_plain rfl ?_
      exact grown_move (.tmp 0) rfl h0
    refine steps_cons (fun a w hk hn => ?_) ?_
    · have h13 : a.eval (.tmp 13) = .pointer (some ⟨x, 0, none⟩) := hn.1
      clear hn
      refine wants_plain rfl ?_
      refine grown_run (v := .pointer (some ⟨x, 0, none⟩)) ?_ (Kp.refl _ _) rfl
      obtain ⟨ρ, hρ, hc, hf, hg⟩ := eval_is a
      rw [hρ] at h13 ⊢
      simp [go_sem, h13]
    refine steps_cons (fun a w hk hn => ?_) ?_
    · have h14 : a.eval (.tmp 14) = .pointer (some ⟨x, 0, none⟩) := hn.1
      clear hn
      refine wants_plain rfl ?_
      refine grown_run (v := .pointer (some ⟨x, 4, none⟩)) ?_ (Kp.refl _ _) rfl
      obtain ⟨ρ, hρ, hc, hf, hg⟩ := eval_is a
      rw [hρ] at h14 ⊢
      simp [go_sem, h14]
    refine steps_cons (fun a w hk hn => ?_) ?_
    · have h15 : a.eval (.tmp 15) = .pointer (some ⟨x, 4, none⟩) := hn.1
      clear hn
      refine wants_plain rfl ?_
      refine grown_run (v := .pointer (some ⟨pk, 0, none⟩)) ?_ (Kp.refl _ _) rfl
      have hcell : w.cell? ⟨x, 4, none⟩ = some (.pointer (some ⟨pk, 0, none⟩)) := by rw [cell_of_row w x 4 _ _ _ (HWd.out w hk)]; rfl
      obtain ⟨ρ, hρ, hc, hf, hg⟩ := eval_is a
      rw [hρ] at h15 ⊢
      simp [go_sem, h15, hcell]
    refine steps_cons (fun a w hk hn => ?_) ?_
    · clear hn
      refine wants_plain rfl ?_
      refine grown_call (f := 11) rfl Tryz.func11 (by kernel_rfl) (by kernel_rfl) ?_
      simp only [List.map_toArray, List.map_cons, List.map_nil]
      refine (xseed_any 0 w).mono ?_
      rintro e w' ⟨ao, m, c, rfl, R, K⟩
      exact ⟨_, rfl, K, ⟨ao, m, c, rfl, R.sl, fun i hi => Nat.le_trans hk.size (R.own i hi)⟩⟩
    exact trivial
  intro W1 hkW1
  rintro _ rfl
  rintro _ rfl
  rintro _ rfl
  rintro _ rfl
  rintro _ rfl
  rintro _ rfl
  rintro _ rfl
  rintro _ rfl
  intro v17 h17
  refine fin_nil ?_
  simp only [Act.put, List.set_cons_zero, List.set_cons_succ, List.setIfInBounds_toArray]
  refine fun K hK => ?_
  refine wp_callQ rfl Tryz.func9 (by kernel_rfl) (by kernel_rfl) ?_
  simp only [List.map_toArray, List.map_cons, List.map_nil, Act.eval]
  obtain ⟨av, mv, cv, ev, Sv, Nv⟩ := h17
  subst ev
  have HO := hide (uopen0 (w0 := w0) (HS.out.on ((kp_drew w).trans hkW1)) (.slice av mv cv) (seedX 0) Sv (seedX_bs 0) (seedX_len 0) (fun i hi ⟨a, ha⟩ => by have h1 := (HS.out.ok.rng a i ha).2; have h2 := Nv i hi; exact absurd (show w.drew.heap.size = w.heap.size from rfl) (by omega)))
  refine HO.out.mono ?_
  rintro ee w2 ⟨l, rfl, f2, L2, T2⟩
  refine ⟨_, rfl, hK _ _ ?_⟩
  clear hK K
  refine ⟨[Is (.tuple #[.pointer (some ⟨l, 0, none⟩), .int .i64 0]), Is (.pointer (some ⟨l, 0, none⟩)), Is (.int .i64 0), Is (.pointer (some ⟨l, 0, none⟩)), Is (.int .i64 0)], ?_, ?_, fun w3 hk3 => ?_⟩
  · simp only [List.mem_cons, List.not_mem_nil, or_false]
    intro R hR
    rcases hR with rfl | rfl | rfl | rfl | rfl <;> exact stable_is _
  · simp only [List.drop_succ_cons, List.drop_zero]
    refine steps_cons (fun a w hk hn => ?_) ?_
    · have h18 : a.eval (.tmp 18) = .tuple #[.pointer (some ⟨l, 0, none⟩), .int .i64 0] := hn.1
      clear hn
      refine wants_plain rfl ?_
      exact grown_move (.tmp 18) rfl h18
    refine steps_cons (fun a w hk hn => ?_) ?_
    · have h8 : a.eval (.tmp 8) = .tuple #[.pointer (some ⟨l, 0, none⟩), .int .i64 0] := hn.1
      clear hn
      refine wants_plain rfl ?_
      refine grown_run (v := .pointer (some ⟨l, 0, none⟩)) ?_ (Kp.refl _ _) rfl
      obtain ⟨ρ, hρ, hc, hf, hg⟩ := eval_is a
      rw [hρ] at h8 ⊢
      simp [go_sem, h8]
    refine steps_cons (fun a w hk hn => ?_) ?_
    · have h8 : a.eval (.tmp 8) = .tuple #[.pointer (some ⟨l, 0, none⟩), .int .i64 0] := hn.1
      clear hn
      refine wants_plain rfl ?_
      refine grown_run (v := .int .i64 0) ?_ (Kp.refl _ _) rfl
      obtain ⟨ρ, hρ, hc, hf, hg⟩ := eval_is a
      rw [hρ] at h8 ⊢
      simp [go_sem, h8]
    refine steps_cons (fun a w hk hn => ?_) ?_
    · have h19 : a.eval (.tmp 19) = .pointer (some ⟨l, 0, none⟩) := hn.1
      clear hn
      refine wants_plain rfl ?_
      exact grown_assign (.tmp 19) rfl h19
    refine steps_cons (fun a w hk hn => ?_) ?_
    · have h20 : a.eval (.tmp 20) = .int .i64 0 := hn.1
      clear hn
      refine wants_plain rfl ?_
      exact grown_assign (.tmp 20) rfl h20
    exact trivial
  simp only [List.drop_succ_cons, List.drop_zero]
  rintro _ rfl
  rintro _ rfl
  rintro _ rfl
  rintro _ rfl
  rintro _ rfl
  refine fin_nil ?_
  simp only [Act.put, List.set_cons_zero, List.set_cons_succ, List.setIfInBounds_toArray]
  have K1 : Kp [] w W1 := (kp_drew w).trans hkW1
  have hW3 := (show Wd w2 x vf vl (.pointer (some ⟨pd, 0, none⟩)) (.pointer (some ⟨pl, 0, none⟩)) (.pointer (some ⟨pk, 0, none⟩)) r s t vw vrc vq from T2.heap (HWd.out W1 hkW1) Hxf.out).kept hk3 (by simp)
  have HWd2 : Hid (∀ w', Kp [] w3.drew w' → Wd w' x vf vl (.pointer (some ⟨pd, 0, none⟩)) (.pointer (some ⟨pl, 0, none⟩)) (.pointer (some ⟨pk, 0, none⟩)) r s t vw vrc vq) := fun w' k => hW3.kept ((kp_drew w3).trans k) (by simp)
  have HL3 := hide (L2.on hk3)
  have HS1 : Hid (Stp (fun i => F i ∨ f.tot i ∨ i = x) w w3 (fun i => F i ∨ f2.tot i ∨ i = x)) := ((Stp.mid K1).trans ((T2.side (fun i => F i ∨ i = x)).cong (fun i hi => by rcases hi with h | h | h; exact .inr (.inl h); exact .inl h; exact .inr (.inr h)) (fun i hi => by rcases hi with h | h | h; exact .inr (.inl h); exact .inl h; exact .inr (.inr h)))).trans (Stp.mid hk3)
  have HD3 : Hid (Dx w0 w3 pd (dkOn []) F) := by
    obtain ⟨U, hU, kU⟩ := T2.kp
    have k0 : Kp [] w0 w2 := L2.kp
    exact ((HD.out.kept K1 (HD.out.kp0.trans K1) (by simp)).kept kU k0 (fun i hi hF => Hap.out i hF (hU i hi))).kept hk3 (k0.trans hk3) (by simp)
  have Hs3 : Hid (w.heap.size ≤ w3.heap.size) := hide (Nat.le_trans K1.size (Nat.le_trans T2.size hk3.size))
  have Hap3 : Hid (∀ i, F i → ¬ f2.tot i) := fun i hi e => by
    rcases T2.2 i e with h | h
    · exact Hap.out i hi h
    · have := (HFr.out i hi).2; have := K1.size; omega
  have Hxf2 : Hid (¬ f2.tot x) := fun e => by
    rcases T2.2 x e with h | h
    · exact Hxf.out h
    · have := Hxw.out; have := K1.size; omega
  have Hx3 : Hid (x < w3.heap.size) := hide (by have := Hxw.out; have := Hs3.out; omega)
  clear hW3 K1 hkW1 Sv Nv HO L2 T2 hk3 HWd HD HS Hap Hxf
  go_wp2_with fail
  refine region_grow_call 17 Tryz.mixed [Is (.pointer (some ⟨x, 0, none⟩)), Is (.pointer (some ⟨x, 0, none⟩)), Is (.pointer (some ⟨x, 2, none⟩)), Is (.pointer (some ⟨pd, 0, none⟩)), Is (.pointer (some ⟨l, 0, none⟩)), Is (.pointer (some ⟨x, 0, none⟩)), Is (.pointer (some ⟨x, 0, none⟩)), Is (.pointer (some ⟨x, 5, none⟩)), Is (.int .i64 r), Is (.pointer (some ⟨x, 0, none⟩)), Is (.pointer (some ⟨x, 0, none⟩)), Is (.pointer (some ⟨x, 6, none⟩)), Is (.int .i64 s), Is (.pointer (some ⟨x, 0, none⟩)), Is (.pointer (some ⟨x, 0, none⟩)), Is (.pointer (some ⟨x, 7, none⟩)), Is (.int .i64 t)] [[(0, none)], [(28, some 0)], [(29, some 1)], [(30, some 2)], [(3, none)], [(0, none)], [(33, some 5)], [(34, some 6)], [(35, some 7)], [(0, none)], [(37, some 9)], [(38, some 10)], [(39, some 11)], [(0, none)], [(41, some 13)], [(42, some 14)], [(43, some 15)], [], [(45, some 17)], [(27, some 18)], [(27, some 18)], [(46, some 19)], [(47, some 20)]] (by kernel_rfl) ?_ ?_ _ rfl rfl ?_
  all_goals try simp only [List.take_succ_cons, List.take_zero]
  · simp only [List.mem_cons, List.not_mem_nil, or_false]
    intro R hR
    rcases hR with rfl | rfl | rfl | rfl | rfl | rfl | rfl | rfl | rfl | rfl | rfl | rfl | rfl | rfl | rfl | rfl | rfl <;> first | exact stable_is _
  · refine steps_cons (fun a w hk hn => ?_) ?_
    · have h0 : a.eval (.tmp 0) = .pointer (some ⟨x, 0, none⟩) := hn.1
      clear hn
      refine wants_plain rfl ?_
      exact grown_move (.tmp 0) rfl h0
    refine steps_cons (fun a w hk hn => ?_) ?_
    · have h28 : a.eval (.tmp 28) = .pointer (some ⟨x, 0, none⟩) := hn.1
      clear hn
      refine wants_plain rfl ?_
      refine grown_run (v := .pointer (some ⟨x, 0, none⟩)) ?_ (Kp.refl _ _) rfl
      obtain ⟨ρ, hρ, hc, hf, hg⟩ := eval_is a
      rw [hρ] at h28 ⊢
      simp [go_sem, h28]
    refine steps_cons (fun a w hk hn => ?_) ?_
    · have h29 : a.eval (.tmp 29) = .pointer (some ⟨x, 0, none⟩) := hn.1
      clear hn
      refine wants_plain rfl ?_
      refine grown_run (v := .pointer (some ⟨x, 2, none⟩)) ?_ (Kp.refl _ _) rfl
      obtain ⟨ρ, hρ, hc, hf, hg⟩ := eval_is a
      rw [hρ] at h29 ⊢
      simp [go_sem, h29]
    refine steps_cons (fun a w hk hn => ?_) ?_
    · have h30 : a.eval (.tmp 30) = .pointer (some ⟨x, 2, none⟩) := hn.1
      clear hn
      refine wants_plain rfl ?_
      refine grown_run (v := .pointer (some ⟨pd, 0, none⟩)) ?_ (Kp.refl _ _) rfl
      have hcell : w.cell? ⟨x, 2, none⟩ = some (.pointer (some ⟨pd, 0, none⟩)) := by rw [cell_of_row w x 2 _ _ _ (HWd2.out w hk)]; rfl
      obtain ⟨ρ, hρ, hc, hf, hg⟩ := eval_is a
      rw [hρ] at h30 ⊢
      simp [go_sem, h30, hcell]
    refine steps_cons (fun a w hk hn => ?_) ?_
    · have h3 : a.eval (.tmp 3) = .pointer (some ⟨l, 0, none⟩) := hn.1
      clear hn
      refine wants_plain rfl ?_
      exact grown_move (.tmp 3) rfl h3
    refine steps_cons (fun a w hk hn => ?_) ?_
    · have h0 : a.eval (.tmp 0) = .pointer (some ⟨x, 0, none⟩) := hn.1
      clear hn
      refine wants_plain rfl ?_
      exact grown_move (.tmp 0) rfl h0
    refine steps_cons (fun a w hk hn => ?_) ?_
    · have h33 : a.eval (.tmp 33) = .pointer (some ⟨x, 0, none⟩) := hn.1
      clear hn
      refine wants_plain rfl ?_
      refine grown_run (v := .pointer (some ⟨x, 0, none⟩)) ?_ (Kp.refl _ _) rfl
      obtain ⟨ρ, hρ, hc, hf, hg⟩ := eval_is a
      rw [hρ] at h33 ⊢
      simp [go_sem, h33]
    refine steps_cons (fun a w hk hn => ?_) ?_
    · have h34 : a.eval (.tmp 34) = .pointer (some ⟨x, 0, none⟩) := hn.1
      clear hn
      refine wants_plain rfl ?_
      refine grown_run (v := .pointer (some ⟨x, 5, none⟩)) ?_ (Kp.refl _ _) rfl
      obtain ⟨ρ, hρ, hc, hf, hg⟩ := eval_is a
      rw [hρ] at h34 ⊢
      simp [go_sem, h34]
    refine steps_cons (fun a w hk hn => ?_) ?_
    · have h35 : a.eval (.tmp 35) = .pointer (some ⟨x, 5, none⟩) := hn.1
      clear hn
      refine wants_plain rfl ?_
      refine grown_run (v := .int .i64 r) ?_ (Kp.refl _ _) rfl
      have hcell : w.cell? ⟨x, 5, none⟩ = some (.int .i64 r) := by rw [cell_of_row w x 5 _ _ _ (HWd2.out w hk)]; rfl
      obtain ⟨ρ, hρ, hc, hf, hg⟩ := eval_is a
      rw [hρ] at h35 ⊢
      simp [go_sem, h35, hcell]
    refine steps_cons (fun a w hk hn => ?_) ?_
    · have h0 : a.eval (.tmp 0) = .pointer (some ⟨x, 0, none⟩) := hn.1
      clear hn
      refine wants_plain rfl ?_
      exact grown_move (.tmp 0) rfl h0
    refine steps_cons (fun a w hk hn => ?_) ?_
    · have h37 : a.eval (.tmp 37) = .pointer (some ⟨x, 0, none⟩) := hn.1
      clear hn
      refine wants_plain rfl ?_
      refine grown_run (v := .pointer (some ⟨x, 0, none⟩)) ?_ (Kp.refl _ _) rfl
      obtain ⟨ρ, hρ, hc, hf, hg⟩ := eval_is a
      rw [hρ] at h37 ⊢
      simp [go_sem, h37]
    refine steps_cons (fun a w hk hn => ?_) ?_
    · have h38 : a.eval (.tmp 38) = .pointer (some ⟨x, 0, none⟩) := hn.1
      clear hn
      refine wants_plain rfl ?_
      refine grown_run (v := .pointer (some ⟨x, 6, none⟩)) ?_ (Kp.refl _ _) rfl
      obtain ⟨ρ, hρ, hc, hf, hg⟩ := eval_is a
      rw [hρ] at h38 ⊢
      simp [go_sem, h38]
    refine steps_cons (fun a w hk hn => ?_) ?_
    · have h39 : a.eval (.tmp 39) = .pointer (some ⟨x, 6, none⟩) := hn.1
      clear hn
      refine wants_plain rfl ?_
      refine grown_run (v := .int .i64 s) ?_ (Kp.refl _ _) rfl
      have hcell : w.cell? ⟨x, 6, none⟩ = some (.int .i64 s) := by rw [cell_of_row w x 6 _ _ _ (HWd2.out w hk)]; rfl
      obtain ⟨ρ, hρ, hc, hf, hg⟩ := eval_is a
      rw [hρ] at h39 ⊢
      simp [go_sem, h39, hcell]
    refine steps_cons (fun a w hk hn => ?_) ?_
    · have h0 : a.eval (.tmp 0) = .pointer (some ⟨x, 0, none⟩) := hn.1
      clear hn
      refine wants_plain rfl ?_
      exact grown_move (.tmp 0) rfl h0
    refine steps_cons (fun a w hk hn => ?_) ?_
    · have h41 : a.eval (.tmp 41) = .pointer (some ⟨x, 0, none⟩) := hn.1
      clear hn
      refine wants_plain rfl ?_
      refine grown_run (v := .pointer (some ⟨x, 0, none⟩)) ?_ (Kp.refl _ _) rfl
      obtain ⟨ρ, hρ, hc, hf, hg⟩ := eval_is a
      rw [hρ] at h41 ⊢
      simp [go_sem, h41]
    refine steps_cons (fun a w hk hn => ?_) ?_
    · have h42 : a.eval (.tmp 42) = .pointer (some ⟨x, 0, none⟩) := hn.1
      clear hn
      refine wants_plain rfl ?_
      refine grown_run (v := .pointer (some ⟨x, 7, none⟩)) ?_ (Kp.refl _ _) rfl
      obtain ⟨ρ, hρ, hc, hf, hg⟩ := eval_is a
      rw [hρ] at h42 ⊢
      simp [go_sem, h42]
    refine steps_cons (fun a w hk hn => ?_) ?_
    · have h43 : a.eval (.tmp 43) = .pointer (some ⟨x, 7, none⟩) := hn.1
      clear hn
      refine wants_plain rfl ?_
      refine grown_run (v := .int .i64 t) ?_ (Kp.refl _ _) rfl
      have hcell : w.cell? ⟨x, 7, none⟩ = some (.int .i64 t) := by rw [cell_of_row w x 7 _ _ _ (HWd2.out w hk)]; rfl
      obtain ⟨ρ, hρ, hc, hf, hg⟩ := eval_is a
      rw [hρ] at h43 ⊢
      simp [go_sem, h43, hcell]
    exact trivial
  intro W1 hkW1
  rintro _ rfl
  rintro _ rfl
  rintro _ rfl
  rintro _ rfl
  rintro _ rfl
  rintro _ rfl
  rintro _ rfl
  rintro _ rfl
  rintro _ rfl
  rintro _ rfl
  rintro _ rfl
  rintro _ rfl
  rintro _ rfl
  rintro _ rfl
  rintro _ rfl
  rintro _ rfl
  rintro _ rfl
  refine fin_nil ?_
  simp only [Act.put, List.set_cons_zero, List.set_cons_succ, List.setIfInBounds_toArray]
  refine fun K hK => ?_
  refine wp_callQ rfl Tryz.func12 (by kernel_rfl) (by kernel_rfl) ?_
  simp only [List.map_toArray, List.map_cons, List.map_nil, Act.eval]
  have kD : Kp [] w3 W1 := (kp_drew w3).trans hkW1
  have HFo := hide (fopen_ok (w0 := w0) (l := l) (L := ls0 (seedX 0)) (f := f2) (F := F) (HD3.out.kept kD (HD3.out.kp0.trans kD) (by simp)) rfl (Int.le_refl 0) rfl opnP_nil rfl (rs := []) rfl (by simp) (by simp) (fun i hi => ⟨(HFr.out i hi).1, by have := (HFr.out i hi).2; have := Hs3.out; have := kD.size; omega⟩) (HL3.out.on kD) Hap3.out HB.out.1.1 HB.out.1.2 HB.out.2.1.1 HB.out.2.1.2 HB.out.2.2.1 HB.out.2.2.2)
  refine HFo.out.mono ?_
  rintro ee w5 ⟨p, rfl, g5, B5, T5⟩
  refine ⟨_, rfl, hK _ _ ?_⟩
  clear hK K
  refine ⟨[Is (.tuple #[.pointer (some ⟨p, 0, none⟩), .int .i64 0]), Is (.pointer (some ⟨p, 0, none⟩)), Is (.int .i64 0), Is (.pointer (some ⟨p, 0, none⟩)), Is (.int .i64 0)], ?_, ?_, fun w6 hk6 => ?_⟩
  · simp only [List.mem_cons, List.not_mem_nil, or_false]
    intro R hR
    rcases hR with rfl | rfl | rfl | rfl | rfl <;> exact stable_is _
  · simp only [List.drop_succ_cons, List.drop_zero]
    refine steps_cons (fun a w hk hn => ?_) ?_
    · have h45 : a.eval (.tmp 45) = .tuple #[.pointer (some ⟨p, 0, none⟩), .int .i64 0] := hn.1
      clear hn
      refine wants_plain rfl ?_
      exact grown_move (.tmp 45) rfl h45
    refine steps_cons (fun a w hk hn => ?_) ?_
    · have h27 : a.eval (.tmp 27) = .tuple #[.pointer (some ⟨p, 0, none⟩), .int .i64 0] := hn.1
      clear hn
      refine wants_plain rfl ?_
      refine grown_run (v := .pointer (some ⟨p, 0, none⟩)) ?_ (Kp.refl _ _) rfl
      obtain ⟨ρ, hρ, hc, hf, hg⟩ := eval_is a
      rw [hρ] at h27 ⊢
      simp [go_sem, h27]
    refine steps_cons (fun a w hk hn => ?_) ?_
    · have h27 : a.eval (.tmp 27) = .tuple #[.pointer (some ⟨p, 0, none⟩), .int .i64 0] := hn.1
      clear hn
      refine wants_plain rfl ?_
      refine grown_run (v := .int .i64 0) ?_ (Kp.refl _ _) rfl
      obtain ⟨ρ, hρ, hc, hf, hg⟩ := eval_is a
      rw [hρ] at h27 ⊢
      simp [go_sem, h27]
    refine steps_cons (fun a w hk hn => ?_) ?_
    · have h46 : a.eval (.tmp 46) = .pointer (some ⟨p, 0, none⟩) := hn.1
      clear hn
      refine wants_plain rfl ?_
      exact grown_assign (.tmp 46) rfl h46
    refine steps_cons (fun a w hk hn => ?_) ?_
    · have h47 : a.eval (.tmp 47) = .int .i64 0 := hn.1
      clear hn
      refine wants_plain rfl ?_
      exact grown_assign (.tmp 47) rfl h47
    exact trivial
  simp only [List.drop_succ_cons, List.drop_zero]
  rintro _ rfl
  rintro _ rfl
  rintro _ rfl
  rintro _ rfl
  rintro _ rfl
  refine fin_nil ?_
  simp only [Act.put, List.set_cons_zero, List.set_cons_succ, List.setIfInBounds_toArray]
  have hW6 := (show Wd w5 x vf vl (.pointer (some ⟨pd, 0, none⟩)) (.pointer (some ⟨pl, 0, none⟩)) (.pointer (some ⟨pk, 0, none⟩)) r s t vw vrc vq from T5.heap (HWd2.out W1 hkW1) (fun e => e.elim HxF.out Hxf2.out)).kept hk6 (by simp)
  have hx2 : ¬ two2 g5 f2 x := fun e => by
    rcases T5.2 x e with h | h
    · exact h.elim HxF.out Hxf2.out
    · have := Hx3.out; have := kD.size; omega
  have HX2 := hide hx2
  have HS2 : Hid (Stp (fun i => F i ∨ f.tot i ∨ i = x) w w6 (fun i => two2 g5 f2 i ∨ i = x)) := ((HS1.out.trans (Stp.mid kD)).trans ((T5.side (fun i => i = x)).cong (fun i hi => by rcases hi with (h | h) | h; exact .inl h; exact .inr (.inl h); exact .inr (.inr h)) (fun i hi => hi))).trans (Stp.mid hk6)
  have hB5 : Bo w0 w5 p l pd pl pk (fs0 r s t) (ls0 (seedX 0)) g5 f2 := B5
  have HB6 := hide (hB5.on hk6)
  have hv := Hvrc.out
  subst hv
  have hc0 := hW6.c0
  have hf0 := hW6.f 0
  have hW7 := hW6.s0 (.pointer (some ⟨p, 0, none⟩))
  have hc1 := hW7.c1
  have hf1 := hW7.f 1
  have hW8 := hW7.s1 (.pointer (some ⟨l, 0, none⟩))
  have hc10 := hW8.c10
  have hf10 := hW8.f 10
  have hW9 := hW8.s10 (.slice none 0 0)
  have hc9 := hW9.c9
  have kx : Kp [x] w6 (((w6.setCell ⟨x, 0, none⟩ (.pointer (some ⟨p, 0, none⟩))).setCell ⟨x, 1, none⟩ (.pointer (some ⟨l, 0, none⟩))).setCell ⟨x, 10, none⟩ (.slice none 0 0)) := ((kp_set w6 x 0 _).trans (kp_set _ x 1 _)).trans (kp_set _ x 10 _)
  have HKx := hide kx
  have HW9 := hide hW9
  clear hW6 hx2 hB5 hW7 hW8 hW9 kx B5 T5 hk6 hkW1 HWd2 HFo kD
  go_wp2_with fail
  go_loopw [7] (fun i wr => i = .int .i64 0 ∧ wr = (((w6.setCell ⟨x, 0, none⟩ (.pointer (some ⟨p, 0, none⟩))).setCell ⟨x, 1, none⟩ (.pointer (some ⟨l, 0, none⟩))).setCell ⟨x, 10, none⟩ (.slice none 0 0))) (fun i _ => 0)
  case atStart => exact ⟨rfl, rfl⟩
  case round =>
    obtain ⟨rfl, rfl⟩ := hrel
    go_wp2_with fail
    go_ret
    refine ⟨rfl, p, l, g5, f2, HB6.out.beside HKx.out (fun i hi => ?_), HW9.out, HX2.out, HS2.out.trans ⟨⟨[x], fun i hi => .inr (by simpa using hi), HKx.out⟩, fun i hi => .inl hi⟩⟩
    simp at hi
    subst hi
    exact ⟨Hx0.out, HX2.out⟩
end
theorem Nw.low {w w1 w2 : World} {p : Nat} {v : Value} {d : Dk} (h : Nw w1 w2 p v d) (k : Kp [] w w1) : Nw w w2 p v d :=
  ⟨⟨h.dk.here, owns_rebase h.dk.row (fun i hi => Nat.le_trans k.size (h.dk.row.own i hi)), h.dk.fit, h.dk.typ⟩, Nat.le_trans k.size h.new, k.trans h.kp, h.arm⟩
/-- the law's world with a front and its ledger. -/
structure Wz (w0 w : World) (x p l pd pl pk : Nat) (S : FS) (L : LS) (g f : Fps) (vw vrc vq : Value) : Prop where
  bo : Bo w0 w p l pd pl pk S L g f
  at_ : Wd w x (.pointer (some ⟨p, 0, none⟩)) (.pointer (some ⟨l, 0, none⟩)) (.pointer (some ⟨pd, 0, none⟩)) (.pointer (some ⟨pl, 0, none⟩)) (.pointer (some ⟨pk, 0, none⟩)) S.room S.size S.wait vw vrc vq
  nx : ¬ two2 g f x
  x0 : w0.heap.size ≤ x
/-- all that the front, its ledger and the law's world lie in. -/
def allF (g f : Fps) (x : Nat) : Nat → Prop := fun i => two2 g f i ∨ i = x
set_option maxRecDepth 100000 in
set_option maxHeartbeats 8000000 in
theorem open0_any (r s t : Int) (w : World) (h1 : 1 ≤ r) (h2 : r ≤ 16) (h3 : 1 ≤ s) (h4 : s ≤ 8) (h5 : 0 ≤ t) (h6 : t ≤ 1000) :
    Calls Tryz.prog 21 #[.int .i64 r, .int .i64 s, .int .i64 t] w fun e w' => ∃ x p l pd pl pk g f pw, e = .returned (.pointer (some ⟨x, 0, none⟩)) ∧ Wz w w' x p l pd pl pk (fs0 r s t) (ls0 (seedX 0)) g f (.pointer (some ⟨pw, 0, none⟩)) (.slice none 0 0) (.slice none 0 0) ∧ Rf w w' (allF g f x) pw (.slice none 0 0) (seedX 0) [] 0 none := by
  have HB := hide (And.intro (And.intro h1 h2) (And.intro (And.intro h3 h4) (And.intro h5 h6)))
  have HF := hide (ffresh_any w)
  clear h1 h2 h3 h4 h5 h6
  go_enter Tryz.func21, Tryz.ntmps21
  go_wp2_with fail
  refine HF.out.mono ?_
  rintro ee w1 ⟨pd, rfl, N1⟩
  have HN1 := hide N1
  have HF1 := hide (ffresh_any w1)
  clear N1 HF
  go_wp2_with fail
  refine HF1.out.mono ?_
  rintro ee w2 ⟨pl, rfl, N2⟩
  have HN2 := hide N2
  have HF2 := hide (ffresh_any w2)
  clear N2 HF1
  go_wp2_with fail
  refine HF2.out.mono ?_
  rintro ee w3 ⟨pk, rfl, N3⟩
  have HN3 := hide N3
  have HSe := hide (xseed_any 0 w3)
  clear N3 HF2
  go_wp2_with fail
  refine HSe.out.mono ?_
  rintro ee w4 ⟨a4, m4, c4, rfl, R4, K4⟩
  have HK4 := hide K4
  obtain ⟨FD, hFD⟩ : ∃ F : Nat → Prop, F = fun i => w.heap.size ≤ i ∧ i < w3.heap.size := ⟨_, rfl⟩
  have s1 := HN1.out.kp.size
  have s2 := HN2.out.kp.size
  have s3 := HN3.out.kp.size
  have HNe := hide (r15new_any w FD w3.heap.size (.slice a4 m4 c4) (seedX 0) w4 R4.sl (seedX_bs 0) (seedX_len 0) (fun q hq => R4.own q hq) (fun q hq => by rw [hFD] at hq; exact hq.2) K4.size (by omega))
  clear HSe R4 K4 s1 s2 s3
  go_wp2_with fail
  refine HNe.out.mono ?_
  rintro ee w5 ⟨pw, rfl, RF5, K5⟩
  have HK5 := hide K5
  have HRF := hide RF5
  clear HNe K5 RF5
  obtain ⟨w6, hw6⟩ : ∃ y, y = w5.alloc (.cells #[.pointer none, .pointer none, .pointer (some ⟨pd, 0, none⟩), .pointer (some ⟨pl, 0, none⟩), .pointer (some ⟨pk, 0, none⟩), .int .i64 r, .int .i64 s, .int .i64 t, .pointer (some ⟨pw, 0, none⟩), .slice none 0 0, .slice none 0 0] 50) := ⟨_, rfl⟩
  have hW6 : Wd w6 w5.heap.size (.pointer none) (.pointer none) (.pointer (some ⟨pd, 0, none⟩)) (.pointer (some ⟨pl, 0, none⟩)) (.pointer (some ⟨pk, 0, none⟩)) r s t (.pointer (some ⟨pw, 0, none⟩)) (.slice none 0 0) (.slice none 0 0) := by rw [hw6]; exact heap_alloc_new w5 _
  have k6 : Kp [] w5 w6 := by rw [hw6]; exact (Kp.refl [] w5).alloc _
  have sz6 : w6.heap.size = w5.heap.size + 1 := by rw [hw6]; simp
  have s1 := HN1.out.kp.size
  have s2 := HN2.out.kp.size
  have s3 := HN3.out.kp.size
  have s4 := HK4.out.size
  have s5 := HK5.out.size
  have k3 : Kp [] w3 w6 := (HK4.out.trans HK5.out).trans k6
  have kw3 : Kp [] w w3 := (HN1.out.kp.trans HN2.out.kp).trans HN3.out.kp
  have hDx : Dx w w6 pd (dkOn []) (fun i => w.heap.size ≤ i ∧ i < w1.heap.size) := ⟨_, HN1.out.on ((HN2.out.kp.trans HN3.out.kp).trans k3), fun i hi => ⟨HN1.out.news i hi, HN1.out.dk.lt i hi⟩⟩
  have n2 := HN2.out.low HN1.out.kp
  have n3 := HN3.out.low (HN1.out.kp.trans HN2.out.kp)
  have hDs : Ds w w6 pl pk (dkOn []) (dkOn []) (f2 w1.heap.size w2.heap.size w3.heap.size) := ⟨⟨kw3.trans k3, fun a b i ha hb => by
      rcases ha with ⟨rfl, h⟩ | ⟨rfl, h⟩ <;> rcases hb with ⟨rfl, g⟩ | ⟨rfl, g⟩ <;> first | rfl | omega, fun a i ha => by
      rcases ha with ⟨rfl, h⟩ | ⟨rfl, h⟩ <;> omega⟩, ⟨_, n2.on (HN3.out.kp.trans k3), fun i hi => .inl ⟨rfl, HN2.out.news i hi, HN2.out.dk.lt i hi⟩⟩, ⟨_, n3.on k3, fun i hi => .inr ⟨rfl, HN3.out.news i hi, HN3.out.dk.lt i hi⟩⟩⟩
  have hf2 : ∀ i, (f2 w1.heap.size w2.heap.size w3.heap.size).tot i → w1.heap.size ≤ i ∧ i < w3.heap.size := fun i ⟨a, ha⟩ => by
    rcases ha with ⟨rfl, h⟩ | ⟨rfl, h⟩ <;> omega
  have HAg := hide (fagain0 (w0 := w) (w := w6) (x := w5.heap.size) (F := fun i => w.heap.size ≤ i ∧ i < w1.heap.size) (f := f2 w1.heap.size w2.heap.size w3.heap.size) _ _ _ _ hW6 (by omega) hDx (fun i hi => by omega) hDs (fun i hi e => by have := hf2 i e; omega) (fun e => by omega) (fun e => by have := hf2 _ e; omega) HB.out.1.1 HB.out.1.2 HB.out.2.1.1 HB.out.2.1.2 HB.out.2.2.1 HB.out.2.2.2)
  have HT6 : Hid (Stp FD w5 w6 (fun i => (w.heap.size ≤ i ∧ i < w1.heap.size) ∨ (f2 w1.heap.size w2.heap.size w3.heap.size).tot i ∨ i = w5.heap.size)) := ⟨⟨[], by simp, k6⟩, fun i hi => by
    rw [hFD]
    rcases hi with h | h | h
    · exact .inl (by omega)
    · exact .inl (by have := hf2 i h; omega)
    · exact .inr (by omega)⟩
  have hs2 := hW6.c2
  have hs3 := hW6.c3
  have hs4 := hW6.c4
  have Hx0 : Hid (w.heap.size ≤ w5.heap.size) := hide (by omega)
  clear hW6 k6 k3 kw3 hDx hDs n2 n3 hf2 s1 s2 s3 s4 s5 sz6 hFD
  subst hw6
  refine hide ?_
  go_wp2_with fail
  refine HAg.out.mono ?_
  rintro ee w7 ⟨rfl, p, l, g, f', B7, W7, X7, T7⟩
  have HZ : Hid (Wz w w7 w5.heap.size p l pd pl pk (fs0 r s t) (ls0 (seedX 0)) g f' (.pointer (some ⟨pw, 0, none⟩)) (.slice none 0 0) (.slice none 0 0)) := ⟨B7, W7, X7, Hx0.out⟩
  have HR7 : Hid (Rf w w7 (allF g f' w5.heap.size) pw (.slice none 0 0) (seedX 0) [] 0 none) := HRF.out.step (HT6.out.trans T7)
  clear HAg B7 W7 X7 T7 hs2 hs3 hs4 HT6
  go_wp2_with fail
  go_ret
  exact ⟨_, p, l, pd, pl, pk, g, f', pw, rfl, HZ.out, HR7.out⟩
section
variable {w0 w : World} {x p l pd pl pk : Nat} {S : FS} {L : LS} {g f : Fps} {vw vrc vq : Value}
theorem subP_q {its : List (List Int)} {S S' : FS} {b : List Int} {now k n : Int} (h : subP its S b now = (k, n, S')) : S'.room = S.room ∧ S'.size = S.size ∧ S'.wait = S.wait := by
  unfold subP at h
  split at h
  · cases h; exact ⟨rfl, rfl, rfl⟩
  · split at h
    · cases h; exact ⟨rfl, rfl, rfl⟩
    · split at h
      · cases h; exact ⟨rfl, rfl, rfl⟩
      · split at h
        · cases h; exact ⟨rfl, rfl, rfl⟩
        · split at h <;> (cases h; exact ⟨rfl, rfl, rfl⟩)
/-- Submit through the law's world. -/
theorem wz_sub (h : Wz w0 w x p l pd pl pk S L g f vw vrc vq) (vb : Value) (b : List Int) (hS : Sl w vb b) (hB : Bs b) (hl : b.length ≤ 65535) (hvb : ∀ i, vb.ownBlock = some i → ¬ g.tot i) (now : Int) (hn0 : -9223372036854775808 ≤ now) (hn1 : now ≤ 9223372036854775807) (hrc : S.rc.length ≤ 1000) (hm : S.m ≤ 1000) (k n : Int) (S' : FS) (hsub : subP L.its S b now = (k, n, S')) :
    Calls Tryz.prog 24 #[.pointer (some ⟨p, 0, none⟩), vb, .int .i64 now] w fun e w' => e = .returned (ansV k n) ∧ ∃ g', Wz w0 w' x p l pd pl pk S' L g' f vw vrc vq ∧ Stp (two2 g f) w w' (two2 g' f) := by
  refine (fsub_any h.bo.fr h.bo.lg vb b hS hB hl hvb now hn0 hn1 hrc hm k n S' hsub).mono ?_
  rintro e w' ⟨rfl, g', F', T⟩
  obtain ⟨B', T'⟩ := h.bo.stepF F' T
  obtain ⟨e1, e2, e3⟩ := subP_q hsub
  exact ⟨rfl, g', ⟨B', by rw [e1, e2, e3]; exact T'.heap h.at_ h.nx, T'.off h.at_.lt h.nx, h.x0⟩, T'⟩
theorem Wz.on {w' : World} (h : Wz w0 w x p l pd pl pk S L g f vw vrc vq) (k : Kp [] w w') : Wz w0 w' x p l pd pl pk S L g f vw vrc vq := ⟨h.bo.on k, h.at_.kept k (by simp), h.nx, h.x0⟩
theorem Wz.beside {w' : World} {T : List Nat} (h : Wz w0 w x p l pd pl pk S L g f vw vrc vq) (k : Kp T w w') (hT : ∀ i ∈ T, w0.heap.size ≤ i ∧ ¬ allF g f x i) : Wz w0 w' x p l pd pl pk S L g f vw vrc vq :=
  ⟨h.bo.beside k (fun i hi => ⟨(hT i hi).1, fun e => (hT i hi).2 (.inl e)⟩), h.at_.kept k (fun hm => (hT x hm).2 (.inr rfl)), h.nx, h.x0⟩
theorem wz_step (h : Wz w0 w x p l pd pl pk S L g f vw vrc vq) (now : Int) (h0 : -9223372036854775808 ≤ now) (h1 : now ≤ 9223372036854775807) (hd : S.q.due now = true) (k : Nat) (hk : k = min S.size.toNat S.ms.length) (hk0 : 0 < k) (xs : List (List Int)) (hxs : xs = (S.ms.take k).map It.bs) (hnd : (L.its ++ xs).Nodup) (h256 : (L.its ++ xs).length ≤ 256) (hmj : L.mj ≤ 1000) (hms : S.ms.length ≤ 500) (er : Bool) (dd' : Dk) (he : L.dd.add (recP (batU xs)) = (er, dd')) (en : Int) (hen : en = if er then 0 else 13) (S' : FS) (hS' : S' = { S with ms := if er then S.ms.drop k else xs.map evr ++ S.ms.drop k }) (L' : LS) (hL' : L' = { L with dd := dd', mj := L.mj + 1, its := if er then L.its ++ xs else L.its }) :
    Calls Tryz.prog 23 #[.pointer (some ⟨p, 0, none⟩), .int .i64 now] w fun e w' => ∃ u, e = .returned (.tuple #[u, .int .i64 en]) ∧ (if er then RowI w' w.heap.size u (seqF L.its.length k) else u = .slice none 0 0) ∧ ∃ g' f', Wz w0 w' x p l pd pl pk S' L' g' f' vw vrc vq ∧ Stp (two2 g f) w w' (two2 g' f') ∧ ∀ i, u.ownBlock = some i → ¬ two2 g' f' i := by
  refine (fstep_due h.bo now h0 h1 hd k hk hk0 xs hxs hnd h256 hmj hms er dd' he en hen).mono ?_
  rintro e w' ⟨u, rfl, hu, g', f', B', T', ho⟩
  subst hS' hL'
  exact ⟨u, rfl, hu, g', f', ⟨B', T'.heap h.at_ h.nx, T'.off h.at_.lt h.nx, h.x0⟩, T', ho⟩
end
end Go.Proofs.YteabdojjllfcpaaGreat

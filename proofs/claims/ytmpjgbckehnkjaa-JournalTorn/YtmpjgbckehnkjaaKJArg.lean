/-
  Arguments of the laws of the journal: slices of truths, slices of asks.
-/
import Derived.Test.YtmpjgbckehnkjaaKJFew
import Derived.ChangeSame
namespace Go.Proofs.Ytmpjgbckehnkjaa
open Go.RowKit
open Go.Proofs
open Go.Deep Go.ChangeShapes Go.WideShapes

/-- Few, with its room. -/
theorem few_k (vl : Value) (l : List (Value × List Int)) (n most : Nat) (w : World) (hl : Lists w vl l) (hn : n ≤ 1000) :
    Calls Try.prog 18 #[vl, .int .i64 n, .int .i64 most] w fun e w' => ∃ ol oc la, e = .returned (.slice ol la.length oc) ∧ Lists w' (.slice ol la.length oc) la ∧ Kp [] w w' ∧ la.length ≤ n ∧ (∀ x ∈ la, x.2.length ≤ most) ∧ la.length ≤ oc ∧ (ol = none → oc = 0) := by
  refine (few0_any vl l n most w w hl (Kp.refl _ _) hn).mono ?_
  rintro e w' ⟨o, rfl, F⟩
  have k := F.choose_spec.2.2.1
  have hr : ∀ ol m oc, o = .slice ol m oc → m ≤ oc ∧ (ol = none → oc = 0) := fun ol m oc e => by
    obtain ⟨l', h0, ho, -⟩ := F
    rcases ho.2 with ⟨h', h1⟩ | ⟨g, cap, cur, h', hb, hg, hc, -⟩
    · rw [e] at h'
      injection h' with e1 e2 e3
      exact ⟨by omega, fun _ => e3⟩
    · rw [e] at h'
      injection h' with e1 e2 e3
      refine ⟨by omega, fun h => by rw [e1] at h; cases h⟩
  obtain ⟨la, h1, h2, h3⟩ := F.lists hl.bs (by omega)
  have hL := h3 [] w' (by simp) (Kp.refl _ _) k
  have hL' := hL
  obtain ⟨ol, oc, rfl, -⟩ := hL'
  obtain ⟨r1, r2⟩ := hr _ _ _ rfl
  exact ⟨ol, oc, la, rfl, hL, k, by omega, cat_small la l _ most h2, r1, r2⟩
namespace Dk
theorem add_on (b x : List Int) (h : b.length + x.length ≤ 1048576) : (dkOn b).add x = (true, dkOn (b ++ x)) := by
  have h1 : (dkOn b).app x = (true, ⟨b ++ x, b.length, 1048576, 0, false⟩) := app_plain (d := dkOn b) rfl (Int.le_refl 0) x (by show ((b.length + x.length : Nat) : Int) ≤ 1048576; omega)
  unfold add
  rw [h1, if_pos rfl]
  exact sync_plain (d := ⟨b ++ x, b.length, 1048576, 0, false⟩) rfl (Int.le_refl 0)
theorem app_on (b x : List Int) (h : b.length + x.length ≤ 1048576) : ((dkOn b).app x).1 = true := by
  have h1 : (dkOn b).app x = (true, ⟨b ++ x, b.length, 1048576, 0, false⟩) := app_plain (d := dkOn b) rfl (Int.le_refl 0) x (by show ((b.length + x.length : Nat) : Int) ≤ 1048576; omega)
  rw [h1]
theorem opn_all (ls : List (List Int)) (h : ∀ r ∈ ls, r.length ≤ 65535) : (dkOn (layP ls)).opn = dkOn (layP ls) := by
  unfold opn
  have e : (dkOn (layP ls)).bs = layP ls := rfl
  rw [e, opnP_all ls h, if_neg (by show ¬ (layP ls).length < (layP ls).length; omega)]
end Dk
theorem lists_head {w : World} {ol : Option Addr} {m oc : Nat} {la : List (Value × List Int)} (h : Lists w (.slice ol m oc) la) (k : Nat) (hk : k ≤ la.length) : Lists w (.slice ol k oc) (la.take k) := by
  obtain ⟨ao, c, e, h1, h2⟩ := h
  injection e with e1 e2 e3
  subst e1 e3
  have hl : (la.take k).length = k := by simp; omega
  refine ⟨ol, oc, by rw [hl], by omega, fun i hi => ?_⟩
  rw [hl] at hi
  obtain ⟨b, off, e, h3, h4, h5⟩ := h2 i (by omega)
  refine ⟨b, off, e, ?_⟩
  rw [List.getElem_take]
  exact ⟨h3, h4, h5⟩
def Bools (w : World) (v : Value) (l : List Bool) : Prop :=
  ∃ ao c, v = .slice ao l.length c ∧ l.length ≤ 9223372036854775807 ∧ ∀ i (h : i < l.length), ∃ b off, ao = some ⟨b, off, none⟩ ∧ w.cell? ⟨b, off + i, none⟩ = some (.bool l[i])
theorem Bools.kept {w w' : World} {v : Value} {l : List Bool} (h : Bools w v l) (k : Kp [] w w') : Bools w' v l := by
  obtain ⟨ao, c, rfl, h1, h2⟩ := h
  refine ⟨ao, c, rfl, h1, fun i hi => ?_⟩
  obtain ⟨b, off, e, h3⟩ := h2 i hi
  exact ⟨b, off, e, k.cell h3 (by simp)⟩
/-- one ask as data. -/
structure AskJ where
  kind : Int
  v : Value
  bs : List Int
def AskJAt (w : World) (b o : Nat) (x : AskJ) : Prop :=
  w.rangeAt b o [.int .i64 x.kind, x.v] ∧ Sl w x.v x.bs ∧ Bs x.bs
def AskJs (w : World) (v : Value) (l : List AskJ) : Prop :=
  ∃ ao c, v = .slice ao l.length c ∧ l.length ≤ 9223372036854775807 ∧ ∀ i (h : i < l.length), ∃ b off, ao = some ⟨b, off, none⟩ ∧ AskJAt w b (off + i * 2) l[i]
theorem AskJAt.kept {w w' : World} {b o : Nat} {x : AskJ} (h : AskJAt w b o x) (k : Kp [] w w') : AskJAt w' b o x :=
  ⟨fun j u hu => k.cell (h.1 j u hu) (by simp), h.2.1.kept k (by simp), h.2.2⟩
theorem AskJs.kept {w w' : World} {v : Value} {l : List AskJ} (h : AskJs w v l) (k : Kp [] w w') : AskJs w' v l := by
  obtain ⟨ao, c, rfl, h1, h2⟩ := h
  refine ⟨ao, c, rfl, h1, fun i hi => ?_⟩
  obtain ⟨b, off, e, h3⟩ := h2 i hi
  exact ⟨b, off, e, h3.kept k⟩
theorem Try.askJFields : ∃ f0 f1, Try.prog.underlying 44 = some (.struct #[f0, f1]) ∧ (f0.offset = 0 ∧ f1.offset = 1) ∧ (f0.type = 3 ∧ f1.type = 22) :=
  ⟨_, _, Try.underlying44, ⟨rfl, rfl⟩, ⟨rfl, rfl⟩⟩
theorem Try.cellsAskJ : Try.prog.cellsOf 44 = 2 := by kernel_rfl
theorem Try.cellsIntJ : Try.prog.cellsOf 3 = 1 := by kernel_rfl
theorem Try.cellsSlJ : Try.prog.cellsOf 22 = 1 := by kernel_rfl
theorem Try.cellsBoJ : Try.prog.cellsOf 4 = 1 := by kernel_rfl
section
variable {H : Type} {enc : TypeId × Value → H} {w : World}
theorem askJ1_of_trod {a : Addr} {cs : List Value} {n : Nat} {x : DataW H × List MemPlace} (hc : w.cells? 0 a 2 = some cs) (h : DataW.trod enc Try.prog w 0 (fun _ => true) true n 44 cs = some x) :
    a.spot = none ∧ ∃ d, AskJAt w a.block a.off d := by
  obtain ⟨f0, f1, hu, ⟨o0, o1⟩, ⟨t0, t1⟩⟩ := Try.askJFields
  obtain ⟨y0, y1, m, _, hl, h0, h1⟩ := trod_struct2 hu h
  obtain ⟨_, hlen, hcell⟩ := World.cells?_some hc
  rw [o0, t0, Try.cellsIntJ] at h0
  rw [o1, t1, Try.cellsSlJ] at h1
  match cs, hlen with
  | [c0, c1], _ =>
    simp only [List.drop_zero, List.drop_succ_cons, List.take_succ_cons, List.take_zero] at h0 h1
    obtain ⟨x0, e0, _, _⟩ := DataW.trod_int Try.underlying3 h0
    obtain ⟨bs, hs, hB⟩ := bytes_of_trod h1
    simp only [List.cons.injEq, and_true] at e0
    subst e0
    obtain ⟨b, off, spot⟩ := a
    have k0 := hcell 0 (by omega)
    have hspot : ((⟨b, off, spot⟩ : Addr).add 0).spot = none := World.cell?_spot (v := .int .i64 x0) (by simpa using k0)
    have hspot' : spot = none := by rw [Addr.add_zero'] at hspot; exact hspot
    subst hspot'
    refine ⟨rfl, ⟨x0, c1, bs⟩, fun j u hu => ?_, hs, hB⟩
    have hj : j < 2 := by have := (List.getElem?_eq_some_iff.1 hu).1; simpa using this
    have kj := hcell j (by omega)
    rw [Addr.add_lit] at kj
    rw [kj]
    exact hu
theorem askJ_of_trod {v : Value} {fuel : Nat} {x : DataW H × List MemPlace} (h : DataW.trod enc Try.prog w 0 (fun _ => true) true fuel 39 [v] = some x) : ∃ l, AskJs w v l := by
  rcases open_slice Try.underlying39 h with ⟨hcs, _⟩ | ⟨a, len, cap, m, n, D, Pl, hcs, _, hl, hm, hmm, _, hx⟩
  · simp only [List.cons.injEq, and_true] at hcs
    subst hcs
    exact ⟨[], none, 0, rfl, by simp, fun i hi => by cases hi⟩
  · simp only [List.cons.injEq, and_true] at hcs
    subst hcs
    simp only [if_true] at hmm
    subst hmm
    rw [Try.cellsAskJ] at hx
    have key : ∀ i, i < len → ∃ d, (a.add (i * 2)).spot = none ∧ AskJAt w (a.add (i * 2)).block (a.add (i * 2)).off d := fun i hi => by
      obtain ⟨cs', h1, h2⟩ := hx i (by omega)
      obtain ⟨e, d, hd⟩ := askJ1_of_trod h1 h2
      exact ⟨d, e, hd⟩
    have inst : Inhabited AskJ := ⟨⟨0, .slice none 0 0, []⟩⟩
    obtain ⟨F, hF⟩ := @choose_lt AskJ inst len (fun i d => (a.add (i * 2)).spot = none ∧ AskJAt w (a.add (i * 2)).block (a.add (i * 2)).off d) key
    have hlen : ((List.range len).map F).length = len := by simp
    refine ⟨(List.range len).map F, some a, m, by rw [hlen], by unfold maxLen at hm; rw [hlen]; omega, fun i hi => ?_⟩
    rw [hlen] at hi
    obtain ⟨s0, _⟩ := hF 0 (by omega)
    obtain ⟨si, hA⟩ := hF i hi
    obtain ⟨b, off, spot⟩ := a
    have hspot : spot = none := by simpa [Addr.add] using s0
    subst hspot
    rw [Addr.add_lit] at hA
    have hg : ((List.range len).map F)[i]'(by rw [hlen]; exact hi) = F i := by simp
    rw [hg]
    exact ⟨b, off, rfl, hA⟩
theorem bools_of_trod {v : Value} {fuel : Nat} {x : DataW H × List MemPlace} (h : DataW.trod enc Try.prog w 0 (fun _ => true) true fuel 51 [v] = some x) : ∃ l, Bools w v l := by
  rcases open_slice Try.underlying51 h with ⟨hcs, _⟩ | ⟨a, len, cap, m, n, D, Pl, hcs, _, hl, hm, hmm, _, hx⟩
  · simp only [List.cons.injEq, and_true] at hcs
    subst hcs
    exact ⟨[], none, 0, rfl, by simp, fun i hi => by cases hi⟩
  · simp only [List.cons.injEq, and_true] at hcs
    subst hcs
    simp only [if_true] at hmm
    subst hmm
    rw [Try.cellsBoJ] at hx
    have key : ∀ i, i < len → ∃ d : Bool, w.cell? (a.add i) = some (.bool d) := fun i hi => by
      obtain ⟨cs', h1, h2⟩ := hx i (by omega)
      obtain ⟨d, e, _⟩ := DataW.trod_bool Try.underlying4 h2
      obtain ⟨_, hlen, hcell⟩ := World.cells?_some h1
      subst e
      have k0 := hcell 0 (by omega)
      rw [Nat.mul_one, Addr.add_zero'] at k0
      exact ⟨d, by simpa using k0⟩
    have inst : Inhabited Bool := ⟨false⟩
    obtain ⟨F, hF⟩ := @choose_lt Bool inst len (fun i d => w.cell? (a.add i) = some (.bool d)) key
    have hlen : ((List.range len).map F).length = len := by simp
    refine ⟨(List.range len).map F, some a, m, by rw [hlen], by unfold maxLen at hm; rw [hlen]; omega, fun i hi => ?_⟩
    rw [hlen] at hi
    have hA := hF i hi
    have h0 := hF 0 (by omega)
    obtain ⟨b, off, spot⟩ := a
    have hspot : spot = none := by simpa [Addr.add] using World.cell?_spot h0
    subst hspot
    rw [Addr.add_lit] at hA
    have hg : ((List.range len).map F)[i]'(by rw [hlen]; exact hi) = F i := by simp
    rw [hg]
    exact ⟨b, off, rfl, hA⟩
end
end Go.Proofs.Ytmpjgbckehnkjaa

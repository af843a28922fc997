/-
  How the arguments of this seat's laws are read: a slice of bytes; a slice of asks, each of three numbers and a slice of bytes; a slice of slices of bytes.
-/
import Derived.Test.YthpekclkclpbpaaHelps
import Derived.Deep.Slices
import Derived.Lib.SmallJoins
import Derived.ProofKit
import Derived.OpenShut
namespace Go.Proofs.Ythpekclkclpbpaa
open Go.ChangeShapes Go.WideShapes Go.ChangeAt Go.RowKit
open Go.Deep

section
variable {H : Type} {enc : TypeId × Value → H} {w : World}

theorem bytes_of_trod {v : Value} {fuel : Nat} {x : DataW H × List MemPlace} (h : DataW.trod enc Try.prog w 0 (fun _ => true) true fuel 25 [v] = some x) : ∃ bs, Sl w v bs ∧ Bs bs := by
  rcases open_ints Try.underlying25 Try.underlying5 (by kernel_rfl) h with ⟨hcs, _⟩ | ⟨a, len, cap, zs, hcs, _, hl, hm, hz, _, hcell, hwz⟩
  · simp only [List.cons.injEq, and_true] at hcs
    subst hcs
    exact ⟨[], Sl.nil w, fun b hb => by cases hb⟩
  · simp only [List.cons.injEq, and_true] at hcs
    subst hcs
    simp only [if_true] at hz
    have hlen : (zs.take len).length = len := by simp; omega
    refine ⟨zs.take len, ⟨some a, cap, by rw [hlen], by omega, hm, (fun h => by cases h), fun a' ha j u hu => ?_⟩, fun b hb => bounds_u8 (hwz b (List.mem_of_mem_take hb))⟩
    cases ha
    have hj : j < (zs.take len).length := by have := (List.getElem?_eq_some_iff.1 hu).1; simpa using this
    rw [hcell j (by simp at hj; omega)]
    rw [List.getElem?_map, List.getElem?_take] at hu
    split at hu
    · rw [← hu]
      have : j < zs.length := by omega
      simp [List.getD, List.getElem?_eq_getElem this]
    · cases hu
end

/-- one ask as data. -/
structure AskD where
  kind : Int
  most : Int
  n : Int
  v : Value
  bs : List Int

/-- the four cells of an ask at block b, from o on. -/
def AskAt (w : World) (b o : Nat) (x : AskD) : Prop :=
  w.cell? ⟨b, o, none⟩ = some (.int .i64 x.kind) ∧ w.cell? ⟨b, o + 1, none⟩ = some (.int .i64 x.most) ∧ w.cell? ⟨b, o + 2, none⟩ = some (.int .u32 x.n) ∧ w.cell? ⟨b, o + 3, none⟩ = some x.v ∧
    Sl w x.v x.bs ∧ Bs x.bs ∧ (0 ≤ x.n ∧ x.n ≤ 4294967295) ∧ (-9223372036854775808 ≤ x.most ∧ x.most ≤ 9223372036854775807)
/-- v is a slice that reads as the asks l. -/
def Asks (w : World) (v : Value) (l : List AskD) : Prop :=
  ∃ ao c, v = .slice ao l.length c ∧ l.length ≤ 9223372036854775807 ∧ ∀ i (h : i < l.length), ∃ b off, ao = some ⟨b, off, none⟩ ∧ AskAt w b (off + i * 4) l[i]

theorem AskAt.kept {w w' : World} {b o : Nat} {x : AskD} (h : AskAt w b o x) (k : Kp [] w w') : AskAt w' b o x :=
  ⟨k.cell h.1 (by simp), k.cell h.2.1 (by simp), k.cell h.2.2.1 (by simp), k.cell h.2.2.2.1 (by simp), h.2.2.2.2.1.kept k (by simp), h.2.2.2.2.2⟩
theorem Asks.kept {w w' : World} {v : Value} {l : List AskD} (h : Asks w v l) (k : Kp [] w w') : Asks w' v l := by
  obtain ⟨ao, c, rfl, h1, h2⟩ := h
  refine ⟨ao, c, rfl, h1, fun i hi => ?_⟩
  obtain ⟨b, off, e, h3⟩ := h2 i hi
  exact ⟨b, off, e, h3.kept k⟩

theorem Try.askFields : ∃ f0 f1 f2 f3, Try.prog.underlying 33 = some (.struct #[f0, f1, f2, f3]) ∧ (f0.offset = 0 ∧ f1.offset = 1 ∧ f2.offset = 2 ∧ f3.offset = 3) ∧ (f0.type = 3 ∧ f1.type = 3 ∧ f2.type = 31 ∧ f3.type = 25) :=
  ⟨_, _, _, _, Try.underlying33, ⟨rfl, rfl, rfl, rfl⟩, ⟨rfl, rfl, rfl, rfl⟩⟩
theorem Try.cellsAsk : Try.prog.cellsOf 33 = 4 := by kernel_rfl
theorem Try.cells3 : Try.prog.cellsOf 3 = 1 := by kernel_rfl
theorem Try.cellsU32 : Try.prog.cellsOf 31 = 1 := by kernel_rfl
theorem Try.cellsBytes : Try.prog.cellsOf 25 = 1 := by kernel_rfl

section
variable {H : Type} {enc : TypeId × Value → H} {w : World}
theorem ask_of_trod {a : Addr} {cs : List Value} {n : Nat} {x : DataW H × List MemPlace} (hc : w.cells? 0 a 4 = some cs) (h : DataW.trod enc Try.prog w 0 (fun _ => true) true n 33 cs = some x) :
    a.spot = none ∧ ∃ d, AskAt w a.block a.off d := by
  obtain ⟨f0, f1, f2, f3, hu, ⟨o0, o1, o2, o3⟩, ⟨t0, t1, t2, t3⟩⟩ := Try.askFields
  obtain ⟨y0, y1, y2, y3, m, _, hl, h0, h1, h2, h3⟩ := Go.Joins.trod_struct4 hu h
  obtain ⟨_, hlen, hcell⟩ := World.cells?_some hc
  rw [o0, t0, Try.cells3] at h0
  rw [o1, t1, Try.cells3] at h1
  rw [o2, t2, Try.cellsU32] at h2
  rw [o3, t3, Try.cellsBytes] at h3
  match cs, hlen with
  | [c0, c1, c2, c3], _ =>
    simp only [List.drop_zero, List.drop_succ_cons, List.take_succ_cons, List.take_zero] at h0 h1 h2 h3
    obtain ⟨kind, e0, _, _⟩ := DataW.trod_int Try.underlying3 h0
    obtain ⟨most, e1, _, wm⟩ := DataW.trod_int Try.underlying3 h1
    obtain ⟨num, e2, _, wn⟩ := DataW.trod_int Try.underlying31 h2
    obtain ⟨bs, hs, hB⟩ := bytes_of_trod h3
    simp only [List.cons.injEq, and_true] at e0 e1 e2
    subst e0 e1 e2
    obtain ⟨b, off, spot⟩ := a
    have k0 := hcell 0 (by omega)
    have hspot : ((⟨b, off, spot⟩ : Addr).add 0).spot = none := World.cell?_spot (v := .int .i64 kind) (by simpa using k0)
    have hspot' : spot = none := by rw [Addr.add_zero'] at hspot; exact hspot
    subst hspot'
    have k1 := hcell 1 (by omega)
    have k2 := hcell 2 (by omega)
    have k3 := hcell 3 (by omega)
    rw [Addr.add_lit] at k0 k1 k2 k3
    exact ⟨rfl, ⟨kind, most, num, c3, bs⟩, by simpa using k0, by simpa using k1, by simpa using k2, by simpa using k3, hs, hB, bounds_u32 wn, bounds_i64 wm⟩

theorem asks_of_trod {v : Value} {fuel : Nat} {x : DataW H × List MemPlace} (h : DataW.trod enc Try.prog w 0 (fun _ => true) true fuel 34 [v] = some x) : ∃ l, Asks w v l := by
  rcases open_slice Try.underlying34 h with ⟨hcs, _⟩ | ⟨a, len, cap, m, n, D, Pl, hcs, _, hl, hm, hmm, _, hx⟩
  · simp only [List.cons.injEq, and_true] at hcs
    subst hcs
    exact ⟨[], none, 0, rfl, by simp, fun i hi => by cases hi⟩
  · simp only [List.cons.injEq, and_true] at hcs
    subst hcs
    simp only [if_true] at hmm
    subst hmm
    rw [Try.cellsAsk] at hx
    have key : ∀ i, i < len → ∃ d, (a.add (i * 4)).spot = none ∧ AskAt w (a.add (i * 4)).block (a.add (i * 4)).off d := fun i hi => by
      obtain ⟨cs', h1, h2⟩ := hx i (by omega)
      obtain ⟨e, d, hd⟩ := ask_of_trod h1 h2
      exact ⟨d, e, hd⟩
    have inst : Inhabited AskD := ⟨⟨0, 0, 0, .slice none 0 0, []⟩⟩
    obtain ⟨F, hF⟩ := @choose_lt AskD inst len (fun i d => (a.add (i * 4)).spot = none ∧ AskAt w (a.add (i * 4)).block (a.add (i * 4)).off d) key
    have hlen : ((List.range len).map F).length = len := by simp
    refine ⟨(List.range len).map F, some a, m, by rw [hlen], by unfold maxLen at hm; omega, fun i hi => ?_⟩
    rw [hlen] at hi
    obtain ⟨s0, _⟩ := hF 0 (by omega)
    obtain ⟨si, hA⟩ := hF i hi
    obtain ⟨b, off, spot⟩ := a
    have hspot : spot = none := by simpa [Addr.add] using s0
    subst hspot
    rw [Addr.add_lit] at hA
    exact ⟨b, off, rfl, by simpa using hA⟩
end
end Go.Proofs.Ythpekclkclpbpaa

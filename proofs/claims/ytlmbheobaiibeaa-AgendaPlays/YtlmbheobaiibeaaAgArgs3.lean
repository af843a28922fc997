/-
  How a slice of asks, each of three ints, is read.
-/
import Derived.Test.YtlmbheobaiibeaaPlBase
import Derived.Deep.Slices
import Derived.Deep.Strs
import Derived.ProofKit
import Derived.OpenShut
namespace Go.Proofs.Ytlmbheobaiibeaa
open Go.ChangeShapes Go.WideShapes Go.ChangeAt Go.RowKit
open Go.Deep

def Ask3At (w : World) (b o : Nat) (x : Int × Int × Int) : Prop :=
  w.cell? ⟨b, o, none⟩ = some (.int .i64 x.1) ∧ w.cell? ⟨b, o + 1, none⟩ = some (.int .i64 x.2.1) ∧ w.cell? ⟨b, o + 2, none⟩ = some (.int .i64 x.2.2)
theorem Try.ask3Fields : ∃ f0 f1 f2, Try.prog.underlying 24 = some (.struct #[f0, f1, f2]) ∧ (f0.offset = 0 ∧ f1.offset = 1 ∧ f2.offset = 2) ∧ (f0.type = 3 ∧ f1.type = 3 ∧ f2.type = 3) :=
  ⟨_, _, _, Try.underlying24, ⟨rfl, rfl, rfl⟩, ⟨rfl, rfl, rfl⟩⟩
theorem Try.cellsAsk3 : Try.prog.cellsOf 24 = 3 := by kernel_rfl
theorem Try.cellsInt : Try.prog.cellsOf 3 = 1 := by kernel_rfl
section
variable {H : Type} {enc : TypeId × Value → H} {w : World}
theorem ask3_of_trod {a : Addr} {cs : List Value} {n : Nat} {x : DataW H × List MemPlace} (hc : w.cells? 0 a 3 = some cs) (h : DataW.trod enc Try.prog w 0 (fun _ => true) true n 24 cs = some x) :
    a.spot = none ∧ ∃ d, Ask3At w a.block a.off d := by
  obtain ⟨f0, f1, f2, hu, ⟨o0, o1, o2⟩, ⟨t0, t1, t2⟩⟩ := Try.ask3Fields
  obtain ⟨y0, y1, y2, m, _, hl, h0, h1, h2⟩ := Go.Deep.trod_struct3 hu h
  obtain ⟨_, hlen, hcell⟩ := World.cells?_some hc
  rw [o0, t0, Try.cellsInt] at h0
  rw [o1, t1, Try.cellsInt] at h1
  rw [o2, t2, Try.cellsInt] at h2
  match cs, hlen with
  | [c0, c1, c2], _ =>
    simp only [List.drop_zero, List.drop_succ_cons, List.take_succ_cons, List.take_zero] at h0 h1 h2
    obtain ⟨x0, e0, _, _⟩ := DataW.trod_int Try.underlying3 h0
    obtain ⟨x1, e1, _, _⟩ := DataW.trod_int Try.underlying3 h1
    obtain ⟨x2, e2, _, _⟩ := DataW.trod_int Try.underlying3 h2
    simp only [List.cons.injEq, and_true] at e0 e1 e2
    subst e0 e1 e2
    obtain ⟨b, off, spot⟩ := a
    have k0 := hcell 0 (by omega)
    have hspot : ((⟨b, off, spot⟩ : Addr).add 0).spot = none := World.cell?_spot (v := .int .i64 x0) (by simpa using k0)
    have hspot' : spot = none := by rw [Addr.add_zero'] at hspot; exact hspot
    subst hspot'
    have k1 := hcell 1 (by omega)
    have k2 := hcell 2 (by omega)
    rw [Addr.add_lit] at k0 k1 k2
    exact ⟨rfl, ⟨x0, x1, x2⟩, by simpa using k0, by simpa using k1, by simpa using k2⟩
theorem asks3_of_trod {v : Value} {fuel : Nat} {x : DataW H × List MemPlace} (h : DataW.trod enc Try.prog w 0 (fun _ => true) true fuel 22 [v] = some x) : ∃ l, Asks3 w v l := by
  rcases open_slice Try.underlying22 h with ⟨hcs, _⟩ | ⟨a, len, cap, m, n, D, Pl, hcs, _, hl, hm, hmm, _, hx⟩
  · simp only [List.cons.injEq, and_true] at hcs
    subst hcs
    exact ⟨[], none, 0, rfl, by simp, fun i hi => by cases hi⟩
  · simp only [List.cons.injEq, and_true] at hcs
    subst hcs
    simp only [if_true] at hmm
    subst hmm
    rw [Try.cellsAsk3] at hx
    have key : ∀ i, i < len → ∃ d, (a.add (i * 3)).spot = none ∧ Ask3At w (a.add (i * 3)).block (a.add (i * 3)).off d := fun i hi => by
      obtain ⟨cs', h1, h2⟩ := hx i (by omega)
      obtain ⟨e, d, hd⟩ := ask3_of_trod h1 h2
      exact ⟨d, e, hd⟩
    have inst : Inhabited (Int × Int × Int) := ⟨(0, 0, 0)⟩
    obtain ⟨F, hF⟩ := @choose_lt (Int × Int × Int) inst len (fun i d => (a.add (i * 3)).spot = none ∧ Ask3At w (a.add (i * 3)).block (a.add (i * 3)).off d) key
    have hlen : ((List.range len).map F).length = len := by simp
    refine ⟨(List.range len).map F, some a, m, by rw [hlen], by rw [hlen]; omega, fun i hi => ?_⟩
    rw [hlen] at hi
    obtain ⟨s0, _⟩ := hF 0 (by omega)
    obtain ⟨si, hA⟩ := hF i hi
    obtain ⟨b, off, spot⟩ := a
    have hspot : spot = none := by simpa [Addr.add] using s0
    subst hspot
    rw [Addr.add_lit] at hA
    have hg : ((List.range len).map F).getD i (0, 0, 0) = F i := by simp [hi]
    rw [hg]
    exact ⟨b, off, rfl, hA⟩
end
end Go.Proofs.Ytlmbheobaiibeaa

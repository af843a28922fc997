/-
  Lists of slices as arguments; the contracts of the law package's helpers Few and Sized over this seat's program.
-/
import Derived.Test.YtillhpgdlmeajaaGreatDoorKOKeeps
import Derived.Test.YtillhpgdlmeajaaGreatDoorKHSmalls
import Derived.Laws.OwnMore
namespace Go.Proofs.YtillhpgdlmeajaaGreatDoor
open Go.ChangeShapes Go.WideShapes Go.ChangeAt Go.RowKit
open Go.Deep

section
variable {H : Type} {enc : TypeId × Value → H} {w : World}
theorem lists_of_trod {v : Value} {fuel : Nat} {x : DataW H × List MemPlace} (h : DataW.trod enc Tryz.prog w 0 (fun _ => true) true fuel 33 [v] = some x) : ∃ l, Lists w v l := by
  rcases open_slice1 Tryz.underlying33 (by kernel_rfl) h with ⟨hcs, _⟩ | ⟨a, len, cap, m, n, V, D, Pl, hcs, _, hl, hm, hmm, _, hx⟩
  · simp only [List.cons.injEq, and_true] at hcs
    subst hcs
    exact ⟨[], none, 0, rfl, by simp, fun i hi => by cases hi⟩
  · simp only [List.cons.injEq, and_true] at hcs
    subst hcs
    simp only [if_true] at hmm
    subst hmm
    have key : ∀ i, i < len → ∃ d : Value × List Int, w.cell? (a.add i) = some d.1 ∧ Sl w d.1 d.2 ∧ Bs d.2 := fun i hi => by
      obtain ⟨h1, h2⟩ := hx i (by omega)
      obtain ⟨bs, hs, hB⟩ := bytes_of_trod h2
      exact ⟨(V i, bs), h1, hs, hB⟩
    have inst : Inhabited (Value × List Int) := ⟨(.slice none 0 0, [])⟩
    obtain ⟨F, hF⟩ := @choose_lt (Value × List Int) inst len (fun i d => w.cell? (a.add i) = some d.1 ∧ Sl w d.1 d.2 ∧ Bs d.2) key
    have hlen : ((List.range len).map F).length = len := by simp
    refine ⟨(List.range len).map F, some a, m, by rw [hlen], by unfold maxLen at hm; omega, fun i hi => ?_⟩
    rw [hlen] at hi
    have s0 := (hF 0 (by omega)).1
    obtain ⟨hA, hS, hB⟩ := hF i hi
    obtain ⟨b, off, spot⟩ := a
    have hspot : ((⟨b, off, spot⟩ : Addr).add 0).spot = none := World.cell?_spot s0
    have hspot' : spot = none := by rw [Addr.add_zero'] at hspot; exact hspot
    subst hspot'
    rw [Addr.add_lit] at hA
    exact ⟨b, off, rfl, by simpa using hA, by simpa using hS, by simpa using hB⟩
end

theorem Lists.take {w : World} {ao : Option Addr} {len c n : Nat} {l : List (Value × List Int)} (h : Lists w (.slice ao len c) l) (hn : n ≤ l.length) : Lists w (.slice ao n c) (l.take n) := by
  obtain ⟨ao', c', e, h1, h2⟩ := h
  cases e
  have hl : (l.take n).length = n := by simp; omega
  refine ⟨ao, c, by rw [hl], by omega, fun i hi => ?_⟩
  obtain ⟨b, off, e, h3, h4, h5⟩ := h2 i (by omega)
  have e2 : (l.take n)[i] = l[i]'(by omega) := List.getElem_take
  rw [e2]
  exact ⟨b, off, e, h3, h4, h5⟩

theorem Tryz.infoBytes : (Tryz.prog.info? 22).map (fun i => (i.zero, i.size, i.bytes)) = some (some (.slice none 0 0), 1, 24) := by kernel_rfl

/-- the row of texts that Few has made so far. -/
def FewAt (w wr : World) (l : List (Value × List Int)) (most k : Nat) (o : Value) : Prop :=
  ∃ l' : List (Value × List Int), l'.length = k ∧ wr.ownsRow w.heap.size 22 1 o k (l'.map (·.1)) ∧ Kp [] w wr ∧ (∀ x ∈ l', Sl w x.1 x.2) ∧ l'.map (·.2) = (l.take k).map fun x => x.2.take most

theorem FewAt.lists {w wr : World} {l : List (Value × List Int)} {most k : Nat} {o : Value} (h : FewAt w wr l most k o) (hB : ∀ x ∈ l, Bs x.2) (hk : k ≤ 1000) : ∃ l', Lists wr o l' ∧ l'.map (·.2) = (l.take k).map fun x => x.2.take most := by
  obtain ⟨l', rfl, ho, hK, hS, he⟩ := h
  refine ⟨l', ?_, he⟩
  have hBs : ∀ x ∈ l', Bs x.2 := fun x hx => by
    have : x.2 ∈ l'.map (·.2) := List.mem_map_of_mem hx
    rw [he] at this
    obtain ⟨y, hy, hy2⟩ := List.mem_map.1 this
    rw [← hy2]
    exact (hB y (List.mem_of_mem_take hy)).take _
  rcases ho.2 with ⟨rfl, h0⟩ | ⟨g, cap, cur, rfl, _, hg, _⟩
  · exact ⟨none, 0, by rw [h0], by omega, fun i hi => by omega⟩
  · refine ⟨some ⟨g, 0, none⟩, cap, rfl, by omega, fun i hi => ⟨g, 0, rfl, ?_, (hS _ (List.getElem_mem hi)).kept hK (by simp), hBs _ (List.getElem_mem hi)⟩⟩
    have := ho.cells (g := g) rfl i l'[i].1 (by simp [List.getElem?_eq_getElem hi])
    rwa [Addr.add_lit] at this

theorem made_all {w : World} {base g n : Nat} {xs : List Value} (h : w.ownsRow base 5 1 (.slice (some ⟨g, 0, none⟩) n n) n xs) : w.heap[g]? = some (.cells xs.toArray 5 (0, 0)) := by
  rcases h.2 with ⟨h', _⟩ | ⟨g', cap, cur, h', _, hg, _, _, hs, ht⟩
  · cases h'
  · cases h'
    have e : cur.toList = xs := by rw [← ht]; exact (List.take_of_length_le (by simp [hs])).symm
    rw [hg, ← e]
theorem made_zero : (madeCells (Value.int .u8 0).cells (32 * 1)).toList = (List.replicate 32 (0 : Int)).map (Value.int .u8) := by
  rw [List.map_replicate]
  exact toList_madeCells_one (.int .u8 0) 32
theorem splice_zero (bs : List Int) : splice ((List.replicate 32 (0 : Int)).map (Value.int .u8)) 0 ((bs.take 32).map (Value.int .u8)) = (bs.take 32 ++ List.replicate (32 - (bs.take 32).length) 0).map (Value.int .u8) := by
  unfold splice
  rw [List.take_zero, List.nil_append, List.map_append, ← List.map_drop, List.drop_replicate]
  congr 3
  simp

end Go.Proofs.YtillhpgdlmeajaaGreatDoor

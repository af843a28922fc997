/-
  Lists of few texts that stay whatever becomes of newer blocks; a disk and a row of bytes that grow side by side.
-/
import Derived.Test.YtmpjgbckehnkjaaKDLaw
namespace Go.Proofs.Ytmpjgbckehnkjaa
open Go.ChangeShapes Go.WideShapes Go.ChangeAt Go.RowKit
open Go.Proofs
open Go.Deep

theorem str_app (a b : List Int) : strOfNums a ++ strOfNums b = strOfNums (a ++ b) := by
  refine ByteArray.ext ?_
  rw [ByteArray.data_append]
  refine Array.ext' ?_
  have h := fun l => strOfNums_data l
  simp only [Array.toList_append]
  rw [h, h, h, List.map_append]
/-- the row of texts that Few has made so far; each text was there in w0. -/
def Few0 (w0 w wr : World) (l : List (Value × List Int)) (most k : Nat) (o : Value) : Prop :=
  ∃ l' : List (Value × List Int), l'.length = k ∧ wr.ownsRow w.heap.size 22 1 o k (l'.map (·.1)) ∧ Kp [] w wr ∧ (∀ x ∈ l', Sl w0 x.1 x.2) ∧ l'.map (·.2) = (l.take k).map fun x => x.2.take most
set_option maxRecDepth 100000 in
set_option maxHeartbeats 400000 in
theorem few0_any (vl : Value) (l : List (Value × List Int)) (n most : Nat) (w0 w : World) (hl0 : Lists w0 vl l) (hk0 : Kp [] w0 w) (hn : n ≤ 1000) :
    Calls Try.prog 18 #[vl, .int .i64 n, .int .i64 most] w fun e w' => ∃ o, e = .returned o ∧ Few0 w0 w w' l most (min n l.length) o := by
  obtain ⟨i0, hi0, hz0, hz1, hz2⟩ := info_parts Try.infoBytes
  have hl := hl0.kept hk0
  obtain ⟨al, cl, rfl, hll, hcell⟩ := hl
  obtain ⟨al', cl', e', hll', hcell0⟩ := hl0
  injection e' with e1 e2 e3
  subst e1
  have HC0 := hide hcell0
  clear e2 e3 hcell0 hll'
  have hnn : (n : Int) ≤ 1000 := by omega
  go_enter Try.func18, Try.ntmps18
  go_wp2_with fail
  go_loopw [7, 8] (fun o i wr => ∃ k : Nat, k ≤ n ∧ k ≤ l.length ∧ i = .int .i64 k ∧ Few0 w0 w wr l most k o) (fun _ i _ => n - (intOf i).toNat)
  case atStart => exact ⟨0, by omega, by omega, rfl, [], rfl, World.ownsRow_nil _ _ _ _, Kp.refl _ _, by simp, by simp⟩
  case round =>
    obtain ⟨k, hk1, hk2, rfl, hF⟩ := hrel
    by_cases hlt : k < l.length ∧ k < n
    · obtain ⟨hlt1, hlt2⟩ := hlt
      have hlt3 : (k : Int) < (l.length : Int) := by omega
      have hlt4 : (k : Int) < (n : Int) := by omega
      obtain ⟨b, off, rfl, hc, hS, hB⟩ := hcell k hlt1
      obtain ⟨l', hl', ho, hK, hSs, he⟩ := hF
      obtain ⟨x, hx⟩ : ∃ x, x = l[k] := ⟨_, rfl⟩
      have he2 : l'.map (·.2) ++ [x.2.take most] = (l.take (k + 1)).map fun x => x.2.take most := by
        rw [he, hx, List.take_succ_eq_append_getElem hlt1, List.map_append]; rfl
      rw [← hx] at hc hS hB
      have hcw := hK.cell hc (by simp)
      have hSw := hS.kept hK (by simp)
      have hsz := hK.size
      have HE := hide he2
      have HS : Hid (Sl w0 x.1 x.2) := by
        obtain ⟨_, _, _, _, hS0, _⟩ := HC0.out k hlt1
        rw [hx]; exact hS0
      clear he he2 hx hc hS hcell
      go_wp2_with fail
      refine (cut_any x.1 x.2 most _ hSw).mono ?_
      rintro e w5 ⟨ac, cc, rfl, hT, hw⟩
      subst w5
      have hTw := hT _ (unhide HS)
      clear hT
      obtain ⟨y, hy⟩ : ∃ y, y = x.2.take most := ⟨_, rfl⟩
      rw [← hy] at hTw ⊢
      have HY := hide hy
      clear hy
      subst hl'
      go_wp2_with (at_builtin; refine wpList_append_own _ rfl _ _ 24 rfl w.heap.size 22 i0 (.slice none 0 0) 1 24 Try.underlying24 hi0 hz0 hz1 hz2 rfl (by decide) _ _ _ rfl (ho.alloc _) ⟨wr.heap.size, 0, none⟩ 1 1 [.slice ac y.length cc] rfl rfl (cell_one_new _ _ _) (by simp [Value.oneCell']) (by unfold maxLen; omega) (by omega) (by simp; omega) ?_; intro o' w1 hown1 hgrow _)
      have R : Few0 w0 w w1 l most (l'.length + 1) o' := by
        refine ⟨l' ++ [(.slice ac y.length cc, y)], by simp, by simpa using hown1, ?_, ?_, ?_⟩
        · exact (hK.alloc _).grown hgrow (fun k hk => .inr (ho.lt k hk).1)
        · intro z hz
          rcases List.mem_append.1 hz with h1 | h1
          · exact hSs _ h1
          · simp only [List.mem_singleton] at h1; subst h1; exact hTw
        · rw [List.map_append, ← unhide HE, ← unhide HY]; rfl
      clear hown1 hgrow ho hK hSs hTw hcw hSw
      go_wp2_with fail
      go_roundw
      case rel => exact ⟨l'.length + 1, by omega, by omega, by go_num, R⟩
      case measure => simp [intOf]; omega
    · have hmin : min n l.length = k := by omega
      clear hcell
      go_wp2_with fail
      all_goals
        go_ret
        exact ⟨_, rfl, hmin ▸ hF⟩

/-- Few's answer stays as it is while blocks are written that were there ahead of the call. -/
theorem Few0.lists {w0 w wr : World} {l : List (Value × List Int)} {most k : Nat} {o : Value} (h : Few0 w0 w wr l most k o) (hB : ∀ x ∈ l, Bs x.2) (hk : k ≤ 1000) :
    ∃ l' : List (Value × List Int), l'.length = k ∧ l'.map (·.2) = (l.take k).map (fun x => x.2.take most) ∧ ∀ (S : List Nat) (w' : World), (∀ i ∈ S, i < w.heap.size) → Kp S wr w' → Kp [] w0 w' → Lists w' o l' := by
  obtain ⟨l', rfl, ho, hK, hS, he⟩ := h
  refine ⟨l', rfl, he, fun S w' hlt kS k0 => ?_⟩
  have hBs : ∀ x ∈ l', Bs x.2 := fun x hx => by
    have : x.2 ∈ l'.map (·.2) := List.mem_map_of_mem hx
    rw [he] at this
    obtain ⟨y, hy, hy2⟩ := List.mem_map.1 this
    rw [← hy2]
    exact (hB y (List.mem_of_mem_take hy)).takes _
  have ho' := kS.owns ho (fun i hi hm => by have := (ho.lt i hi).1; have := hlt i hm; omega)
  rcases ho'.2 with ⟨rfl, h0⟩ | ⟨g, cap, cur, rfl, _, hg, _⟩
  · exact ⟨none, 0, by rw [h0], by omega, fun i hi => by omega⟩
  · refine ⟨some ⟨g, 0, none⟩, cap, rfl, by omega, fun i hi => ⟨g, 0, rfl, ?_, (hS _ (List.getElem_mem hi)).kept k0 (by simp), hBs _ (List.getElem_mem hi)⟩⟩
    have := ho'.cells (g := g) rfl i l'[i].1 (by simp [List.getElem?_eq_getElem hi])
    rwa [Addr.add_lit] at this
/-- a disk that was there when the world was wB, and a row beside it that is new since. -/
structure Lp (w0 wB : World) (vB : Value) (p : Nat) (wr : World) (v : Value) (d : Dk) (x : Value) (X : List Int) : Prop where
  nw : Nw w0 wr p v d
  st : Kp (dfp p vB) wB wr
  ch : ∀ k, v.ownBlock = some k → vB.ownBlock = some k ∨ wB.heap.size ≤ k
  row : Row wr wB.heap.size x X
  dj : ∀ k, x.ownBlock = some k → k ∉ dfp p v
theorem Lp.start {w0 w : World} {p : Nat} {v : Value} {d : Dk} (h : Nw w0 w p v d) : Lp w0 w v p w v d (.slice none 0 0) [] :=
  ⟨h, Kp.refl _ _, fun _ hk => .inl hk, ⟨rfl, .inl ⟨rfl, rfl⟩⟩, fun k hk => by cases hk⟩
section
variable {w0 wB wr w1 w2 : World} {vB : Value} {p : Nat} {v v1 : Value} {d d1 : Dk} {x x2 : Value} {X Y : List Int}
/-- the disk takes a step. -/
theorem Lp.disk (h : Lp w0 wB vB p wr v d x X) (n : Nw w0 w1 p v1 d1) (t : DSt p wr v w1 v1) : Lp w0 wB vB p w1 v1 d1 x X := by
  refine ⟨n, h.st.then t.1 (fun i hi => ?_), fun k hk => ?_, h.row.kept t.1 h.dj, fun k hk hm => ?_⟩
  · rcases mem_dfp.1 hi with rfl | hi
    · exact .inl (mem_dfp.2 (.inl rfl))
    · exact (h.ch i hi).imp (fun e => mem_dfp.2 (.inr e)) id
  · rcases t.2 k hk with e | e
    · exact h.ch k e
    · exact .inr (Nat.le_trans h.st.size e)
  · rcases mem_dfp.1 hm with rfl | hm
    · exact h.dj k hk (mem_dfp.2 (.inl rfl))
    · rcases t.2 k hm with e | e
      · exact h.dj k hk (mem_dfp.2 (.inr e))
      · have := h.row.lt hk; omega
/-- more bytes behind the row. -/
theorem Lp.more (h : Lp w0 wB vB p wr v d x X) (r : Row w2 wB.heap.size x2 Y) (s : RStep wr x w2 x2) (hw : w0.heap.size ≤ wB.heap.size) : Lp w0 wB vB p w2 v d x2 Y := by
  have hin : ∀ i ∈ x.ownBlock.toList, x.ownBlock = some i := fun i hi => by simpa [Option.mem_toList] using hi
  refine ⟨⟨h.nw.dk.kept s.1 (fun i hi hm => h.dj i (hin i hm) hi), h.nw.new, h.nw.kp.then s.1 (fun i hi => .inr ?_), h.nw.arm⟩, h.st.then s.1 (fun i hi => .inr (h.row.own i (hin i hi))), h.ch, r, fun k hk hm => ?_⟩
  · have := h.row.own i (hin i hi); omega
  · rcases s.2 k hk with e | e
    · exact h.dj k e hm
    · have := h.nw.dk.lt k hm; omega
theorem Lp.on (h : Lp w0 wB vB p wr v d x X) (k : Kp [] wr w1) : Lp w0 wB vB p w1 v d x X :=
  ⟨h.nw.on k, h.st.trans (k.mono (by simp)), h.ch, h.row.kept k (by simp), h.dj⟩
end
theorem cat_small (l : List (Value × List Int)) (l0 : List (Value × List Int)) (k most : Nat) (h : l.map (·.2) = (l0.take k).map fun x => x.2.take most) : ∀ x ∈ l, x.2.length ≤ most := fun x hx => by
  have : x.2 ∈ l.map (·.2) := List.mem_map_of_mem hx
  rw [h] at this
  obtain ⟨y, _, hy⟩ := List.mem_map.1 this
  rw [← hy]; simp; omega
end Go.Proofs.Ytmpjgbckehnkjaa

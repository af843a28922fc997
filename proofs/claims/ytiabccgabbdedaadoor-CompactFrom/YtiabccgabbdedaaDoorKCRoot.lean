/-
  The contract of a range's Root.
-/
import Derived.Test.YtiabccgabbdedaaDoorKCBack
namespace Go.Proofs.YtiabccgabbdedaaDoor
open Go.RowKit Go.Shelf
open Go.Proofs

/-- the root so far: from the last node on, leftward. -/
def rootsP (ns : List (List Int)) (x : List Int) (pre : List Nat) : List Int := pre.foldl (fun a i => tnodeP (ns.getD i []) a) x
theorem rootsP_snoc (ns : List (List Int)) (x : List Int) (pre : List Nat) (i : Nat) : rootsP ns x (pre ++ [i]) = tnodeP (ns.getD i []) (rootsP ns x pre) := by simp [rootsP]
theorem rootsP_all (ns : List (List Int)) (x : List Int) (m : Nat) (hm : m = ns.length) : rootsP ns x ((downP m).map (fun i => i.val)) = cfoldP (ns ++ [x]) := by
  subst hm
  rw [cfoldP_snoc]
  unfold rootsP downP
  rw [List.map_reverse, List.foldl_reverse]
  have e : ((List.finRange ns.length).map (fun i => i.val)).map (fun i => ns.getD i []) = ns := by
    refine List.ext_getElem (by simp) (fun i h1 h2 => by simp [h2])
  conv => rhs; rw [← e]
  simp only [List.foldr_map]
theorem rootsP_ok (ns : List (List Int)) (x : List Int) (hx : Bs x ∧ x.length ≤ 1000) : ∀ pre, Bs (rootsP ns x pre) ∧ (rootsP ns x pre).length ≤ 1000 := by
  intro pre
  rcases List.eq_nil_or_concat pre with rfl | ⟨q, i, rfl⟩
  · exact hx
  · rw [List.concat_eq_append, rootsP_snoc]
    exact ⟨sha_bs _, by rw [tnodeP_len]; omega⟩
/-- what the loop's own variable holds. -/
def RootI (w : World) (G m : Nat) (ns : List (List Int)) (x : List Int) (pre : List (Fin m)) (W : World) : Prop :=
  (∃ ao mm c, Boxed W G 28 (.slice ao mm c) ∧ Row W w.heap.size (.slice ao mm c) (rootsP ns x (pre.map (fun i => i.val)))) ∧ Kp [] w W ∧ G + 2 ≤ W.heap.size
theorem rootI_own (w : World) (G m B : Nat) (ns : List (List Int)) (x : List Int) (hB : w.heap.size ≤ B) : OwnFrom B (RootI w G m ns x) := by
  intro s W W' row ⟨⟨ao, mm, c, h1, h2⟩, h3, h4⟩ hg hr
  have K : Kp row.toList W W' := (Kp.refl _ W).grown hg (fun k hk => .inl (by simp [hk]))
  refine ⟨⟨ao, mm, c, ?_, h2.kept K (fun i hi hm => ?_)⟩, h3.grown hg (fun k hk => .inr (by have := (hr k hk).1; omega)), Nat.le_trans h4 hg.size⟩
  · refine h1.kept hg (fun e => ?_)
    obtain ⟨_, o, ho, hc⟩ := hr G e.symm
    have h1' : W.heap[G]? = some (.cells #[.slice ao mm c] 28 (0, 0)) := h1
    rw [h1'] at ho
    cases ho
    cases hc
  · obtain ⟨_, o, ho, hc⟩ := hr i (by simpa [Option.mem_toList] using hm)
    obtain ⟨cc, e⟩ := row_type h2 hi
    rw [e] at ho
    cases ho
    cases hc
theorem rootI_put {w W : World} {G m D B : Nat} {ns : List (List Int)} {x : List Int} {pre : List (Fin m)} (hB : w.heap.size ≤ B) (h : RootI w G m ns x pre W) (hD : B ≤ D) (hK : W.heap[D]? = some (.deferred (some []))) : RootI w G m ns x pre (W.putObj D (.deferred none)) :=
  (rootI_own w G m B ns x hB).putObj (.deferred none) h hD hK rfl

set_option maxRecDepth 100000 in
set_option maxHeartbeats 4000000 in
theorem root_any (p : Nat) (v : Value) (n base : Nat) (l : List (Value × List Int)) (r : List Int) (hr : r = cfoldP (l.map (·.2))) (w : World) (h : Rg w base p v n l) (hll : l.length ≤ 90000) (hl : ∀ y ∈ l, y.2.length ≤ 1000) (hG : Gl w) :
    Calls Tryd.prog 19 #[.pointer (some ⟨p, 0, none⟩)] w fun e w' => ∃ ao m c, e = .returned (.slice ao m c) ∧ Row w' w.heap.size (.slice ao m c) r ∧ Kp [] w w' := by
  rcases List.eq_nil_or_concat l with rfl | ⟨l3, y, rfl⟩
  · have hc1 := h.cell1
    obtain ⟨ao, c, e⟩ := h.shape
    rw [List.length_nil] at e
    subst e
    have HC := hide (sum_at (.slice none 0 0) [] r hr w (Sl.nil w) (fun b hb => by cases hb) (by simp) hG)
    clear h hG hl hll hr
    go_enter Tryd.func19, Tryd.ntmps19
    go_wp2_with fail
    refine (unhide HC).mono ?_
    rintro ee w2 ⟨ao2, m2, c2, rfl, R2, K2⟩
    have HR2 := hide R2
    have HK2 := hide K2
    clear R2 K2 HC
    go_wp2_with fail
    go_ret
    exact ⟨ao2, m2, c2, rfl, unhide HR2, unhide HK2⟩
  · rw [List.concat_eq_append] at *
    have hX := h.parts.2 y (by simp)
    have hc1 := h.cell1
    obtain ⟨ax, cx, ex⟩ := hX.1.shape
    have hrow := h.parts.1
    rw [List.map_append] at hrow
    have hll2 : (l3.map (·.1)).length = l3.length := by simp
    rcases hrow.2 with ⟨e0, h0⟩ | ⟨g, cap, cur, rfl, hb, hg, hcap, hmax, -⟩
    · simp at h0
    · have hn1 : ((l3.map (·.1)) ++ [y].map (·.1)).length = l3.length + 1 := by simp
      rw [hn1] at hrow hc1 hcap h
      have hcells : ∀ j (hj : j < (l3.map (·.1)).length), w.cell? ⟨g, j, none⟩ = some (l3.map (·.1))[j] := fun j hj => by
        have := hrow.cells (g := g) rfl j (l3.map (·.1))[j] (by rw [List.getElem?_append_left hj, List.getElem?_eq_getElem hj])
        rwa [Addr.add_lit, Nat.zero_add] at this
      have hcl : w.cell? ⟨g, l3.length, none⟩ = some y.1 := by
        have := hrow.cells (g := g) rfl l3.length y.1 (by rw [List.getElem?_append_right (by simp), hll2]; simp)
        rwa [Addr.add_lit, Nat.zero_add] at this
      have hgl : g < w.heap.size := (Array.getElem?_eq_some_iff.1 hg).1
      have hyl := hl y (by simp)
      have HC := hide (copyOf_any y.1 y.2 w hX.1.sl (by omega))
      obtain ⟨nx, hnx⟩ : ∃ nx, nx = y.2.length := ⟨_, rfl⟩
      rw [← hnx] at ex
      rw [ex] at hcl HC
      have lt2 : (l3.length : Int) < (cap : Int) := by omega
      have lt3 : (l3.length : Int) ≤ (cap : Int) := by omega
      obtain ⟨M, hM⟩ : ∃ M, M = l3.length := ⟨_, rfl⟩
      have hMb : (M : Int) ≤ 90000 := by simp at hll; omega
      have HM := hide hM
      have HH := hide h
      have HG := hide hG
      have HR := hide hr
      have HL := hide hl
      have HX := hide hX
      have HCS := hide hcells
      rw [← hM] at hc1 hcl lt2 lt3
      clear h hG hr hl hX hcells hrow hM hnx ex hg hmax hn1 hll2 hcap hb hll hyl
      refine (callsIn_wide (n := 5)).1 ?_
      refine callsIn_of_wp_marks Tryd.func19 rfl trivial ?_ rfl
      simp only [Tryd.ntmps19, List.size_toArray, List.length_cons, List.length_nil, Nat.reduceAdd, Nat.reduceSub, Array.replicate_succ, Array.replicate_zero, List.push_toArray, List.append_toArray, List.nil_append, List.cons_append]
      gi_wp2_with (first
        | (refine ⟨trivial, ?_⟩; gi_at_call 27; refine (callsIn_wide.2 (unhide HC)).mono ?_; rintro ee w1 ⟨a1, m1, c1, rfl, R1, K1⟩; have hc2 := (K1.alloc (.cells #[.slice a1 m1 c1] 28)).cell hc1 (by simp); have HK1 := hide K1; have HR1 := hide R1; clear R1 K1)
        | (refine ⟨trivial, ?_⟩; gi_at_call 38; refine (back_in Fence.wide _ trivial rfl _ _ _ _).mono ?_; rintro ee w3 ⟨rfl, rfl⟩))
      obtain ⟨W0, hW0⟩ : ∃ W0, W0 = (w1.alloc (.cells #[.slice a1 m1 c1] 28)).alloc (.cells #[.slice (some ⟨g, 0, none⟩) M cap] 47) := ⟨_, rfl⟩
      obtain ⟨G, hGG⟩ : ∃ G, G = w1.heap.size := ⟨_, rfl⟩
      have hs0 : W0.heap.size = G + 2 := by rw [hW0, hGG]; simp
      have K0 : Kp [] w W0 := by rw [hW0]; exact ((unhide HK1).alloc _).alloc _
      have hwG : w.heap.size ≤ G := by rw [hGG]; exact (unhide HK1).size
      have b4 : Boxed W0 G 28 (.slice a1 m1 c1) := by rw [hW0, hGG]; exact (Boxed.new w1 _ _).alloc _
      have bS : Boxed W0 (G + 1) 47 (.slice (some ⟨g, 0, none⟩) M cap) := by
        have := Boxed.new (w1.alloc (.cells #[.slice a1 m1 c1] 28)) 47 (.slice (some ⟨g, 0, none⟩) M cap)
        rw [World.size_alloc, ← hGG] at this
        rw [hW0]; exact this
      have R0 : Row W0 w.heap.size (.slice a1 m1 c1) y.2 := by rw [hW0]; exact ((unhide HR1).kept ((Kp.refl [] w1).alloc _) (by simp)).kept ((Kp.refl [] _).alloc _) (by simp)
      have hlen : (l3.map (·.1)).length = M := by rw [unhide HM]; simp
      have hvs : ∀ x ∈ l3.map (·.1), ∃ ao m c, x = Value.slice ao m c := fun x hx => by
        obtain ⟨z, hz, rfl⟩ := List.mem_map.1 hx
        obtain ⟨ao, c, e⟩ := ((unhide HH).parts.2 z (by simp [hz])).1.shape
        exact ⟨ao, _, c, e⟩
      have HST := hide (back_stops Fence.wide (5 - 1) trivial rfl (by omega) (G + 1) g cap (l3.map (·.1)) (by rw [hlen]; omega) hvs W0 (by omega) (by have := K0.size; omega) (by rw [hlen]; exact bS.cell) (fun j hj => K0.cell (unhide HCS j hj) (by simp)))
      have HI0 : Hid (RootI w G (l3.map (·.1)).length (l3.map (·.2)) y.2 [] W0) := ⟨⟨a1, m1, c1, b4, R0⟩, K0, by omega⟩
      rw [← hW0, ← hGG]
      have HS0 := hide hs0
      have HWG := hide hwG
      have HHV := hide hvs
      clear hW0 hGG b4 bS R0 K0 hs0 hlen hvs hc2 HK1 HR1 HC hc1 hcl
      refine wpIn_rangeFunc_ownG (F := Fence.wide) (n := 5) rfl (by omega) (gf := 51) (lb := #[.pointer (some ⟨G + 1, 0, none⟩)]) rfl trivial (enters_of Tryd.func51 (by kernel_rfl) rfl)
        (unhide HST) TwoK.trans (fun W l o o' hl' h1 _ _ k hk => ?kb) (Below.refl _ _) (fun _ => rfl)
        (RootI w G (l3.map (·.1)).length (l3.map (·.2)) y.2) (fun _ _ _ => False) (rootI_own w G _ _ _ _ (by have := unhide HS0; have := unhide HWG; omega)) (fun _ _ _ _ _ hs _ _ => hs) (unhide HI0)
        (fun x => { tmps := #[.pointer (some ⟨p, 0, none⟩), undef, .slice none 0 0, .int .i64 M, .pointer (some ⟨G, 0, none⟩), undef, (l3.map (·.1))[x], .pointer (some ⟨p, 0, none⟩), .pointer (some ⟨p, 0, none⟩), .pointer (some ⟨p, 1, none⟩), .slice (some ⟨g, 0, none⟩) (M + 1) cap, .int .i64 ((M : Int) + 1), .bool false, undef, .pointer (some ⟨p, 0, none⟩), .pointer (some ⟨p, 0, none⟩), .pointer (some ⟨p, 1, none⟩), .slice (some ⟨g, 0, none⟩) (M + 1) cap, .int .i64 ((M : Int) + 1), .int .i64 M, .pointer (some ⟨p, 0, none⟩), .pointer (some ⟨p, 0, none⟩), .pointer (some ⟨p, 1, none⟩), .slice (some ⟨g, 0, none⟩) (M + 1) cap, .int .i64 M, .pointer (some ⟨g, M, none⟩), .slice ax nx cx, .slice a1 m1 c1, .pointer (some ⟨p, 0, none⟩), .pointer (some ⟨p, 0, none⟩), .pointer (some ⟨p, 1, none⟩), .slice (some ⟨g, 0, none⟩) (M + 1) cap, .int .i64 M, .slice (some ⟨g, 0, none⟩) M cap, .func (.func 51) #[] #[.pointer (some ⟨G + 1, 0, none⟩)], .int .i64 ((x.val : Nat) : Int), (l3.map (·.1))[x], undef, undef, undef, undef], defers := [] }) ?assign ?body ?done ?stop
      case kb =>
        refine World.putObj_heap_other (fun e => ?_)
        have := unhide HS0
        have := unhide HWG
        simp at hk
        omega
      case assign =>
        intro l x W K hK
        simp only [Fin.getElem_fin, List.getElem_map] at hK
        have hsa := Oper.semAt_some l
        gi_wp2
        exact hK
      case body =>
        clear HST HI0
        rintro l pre x W ⟨⟨ao, mm, c, hbx, hrow⟩, hK, hsz⟩ _
        have hxl : x.val < l3.length := by have := x.isLt; simpa using this
        have hnode := ((unhide HH).keptN hK).parts.2 (l3[x.val]) (by simp)
        have hnl := unhide HL (l3[x.val]) (by simp)
        have ok := rootsP_ok (l3.map (·.2)) y.2 ⟨(unhide HX).2.1, unhide HL y (by simp)⟩ (pre.map (fun i => i.val))
        have HND := hide (tnode_any (l3[x.val]).1 (.slice ao mm c) (l3[x.val]).2 _ _ rfl W hnode.1.sl hnode.2.1 (by omega) hrow.sl ok.1 (by omega) ((unhide HG).kept hK (by simp)))
        have ex2 : (l3.map (·.1))[x] = (l3[x.val]).1 := by simp
        have en2 : (l3.map (·.2)).getD x.val [] = (l3[x.val]).2 := by simp [hxl]
        obtain ⟨ay, cy, ey⟩ := hnode.1.shape
        obtain ⟨ny, hny⟩ : ∃ ny, ny = (l3[x.val]).2.length := ⟨_, rfl⟩
        rw [← hny] at ey
        rw [ex2, ey]
        rw [ey] at HND
        have hcb := hbx.cell
        have HBX := hide hbx
        have HK := hide hK
        have HEN := hide en2
        clear hbx hrow hK hnode hnl ok ex2 en2 ey hny
        have hsa := Oper.semAt_some l
        gi_wp2_with (refine ⟨trivial, ?_⟩; gi_at_call 29; refine (CallsIn.inRound l (callsIn_wide.2 (unhide HND))).mono ?_; rintro ee w5 ⟨a5, m5, c5, rfl, R5, K5⟩; have hb5 : Boxed w5 G 28 (.slice ao mm c) := K5.heap (unhide HBX) (by simp); have hc5 := hb5.cell; have hf5 := hb5.frozen; have HB5 := hide hb5; have HR5 := hide R5; have HK5 := hide K5; clear R5 K5 hb5)
        have k5 := unhide HK5
        have b5 := unhide HB5
        have K6 : Kp [G] w5 (w5.setCell ⟨G, 0, none⟩ (.slice a5 m5 c5)) := (Kp.refl [G] w5).setCell (p := ⟨G, 0, none⟩) (.inl (by simp)) _
        refine ⟨((KeepsOthers.mk k5.size (fun k o hk _ => k5.heap hk (by simp))).trans (KeepsOthers.setCell _ _ _)).from _, fun k hk => ?_, ⟨⟨a5, m5, c5, one_setCell b5, ?_⟩, ?_, ?_⟩⟩
        · refine (Below.heap_setCell _ _ _ _ (fun e => ?_)).trans (k5.block k ?_ (by simp))
          · have := unhide HWG
            simp at hk e
            omega
          · have := unhide HWG
            have := (unhide HK).size
            simp at hk
            omega
        · rw [List.map_append, List.map_cons, List.map_nil, rootsP_snoc, unhide HEN]
          have r5 := unhide HR5
          have r6 : Row w5 w.heap.size (.slice a5 m5 c5) (tnodeP (l3[x.val]).2 (rootsP (l3.map (·.2)) y.2 (pre.map (fun i => i.val)))) := owns_rebase r5 (fun i hi => by have h1 := Row.own r5 i hi; have h2 := (unhide HK).size; omega)
          refine Row.kept r6 K6 (fun i hi hm => ?_)
          obtain rfl : i = G := by simpa using hm
          obtain ⟨cc, e⟩ := row_type r5 hi
          have b5' : w5.heap[i]? = some (.cells #[.slice ao mm c] 28 (0, 0)) := b5
          rw [b5'] at e
          injection e with e
          injection e with _ e
          cases e
        · exact ((unhide HK).trans k5).setCell (p := ⟨G, 0, none⟩) (.inr (unhide HWG)) _
        · rw [setCell_size]
          exact Nat.le_trans hsz k5.size
      case done =>
        intro D ys W hD hys hI hKd
        have hB0 : w.heap.size ≤ W0.heap.size := by have := unhide HS0; have := unhide HWG; omega
        have hI2 := rootI_put hB0 hI hD hKd
        have HYS := hide hys
        have HI2 := hide hI2
        clear hB0 hys
        obtain ⟨⟨ao, mm, c, hbx, hrow⟩, hK, hsz⟩ := hI
        have hcb := hbx.cell
        have HBX := hide hbx
        have HKD := hide hKd
        clear hrow hK hsz hI2 hbx HST HI0
        gi_wp2
        refine ⟨by simp, .inl ⟨_, _, rfl, run_takeDeferred (unhide HKD), ?_⟩⟩
        refine ⟨_, results_tmp rfl _ _ _, ao, mm, c, rfl, ?_, (unhide HI2).2.1⟩
        obtain ⟨⟨ao2, mm2, c2, hbx2, hrow2⟩, _⟩ := unhide HI2
        have e1 : Boxed (W.putObj D (.deferred none)) G 28 (.slice ao mm c) := (unhide HBX).kept (grownBy_putObj' W D _) (fun e => by
          have hk := unhide HKD
          have hb : W.heap[G]? = some (.cells #[.slice ao mm c] 28 (0, 0)) := unhide HBX
          cases e
          rw [hb] at hk
          cases hk)
        have e2 : (Value.slice ao2 mm2 c2) = .slice ao mm c := by
          have h1 := hbx2.cell
          rw [e1.cell] at h1
          exact (Option.some.inj h1).symm
        rw [e2, unhide HYS, rootsP_all _ _ _ (by simp)] at hrow2
        rw [unhide HR, List.map_append]
        exact hrow2
      case stop =>
        rintro D c pre W _ _ hh _
        exact hh.elim
end Go.Proofs.YtiabccgabbdedaaDoor

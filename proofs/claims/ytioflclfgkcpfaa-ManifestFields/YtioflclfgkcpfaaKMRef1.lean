/-
  The contracts of the reference's Num and Bytes (numbers and texts behind what there is).
-/
import Derived.Test.YtioflclfgkcpfaaKLMan
import Derived.Test.YtioflclfgkcpfaaKRGrowApp
import Derived.Test.YtioflclfgkcpfaaKLWn
namespace Go.Proofs.Ytioflclfgkcpfaa
open Go.RowKit
open Go.Proofs

set_option maxHeartbeats 400000 in
theorem refnum_any (v : Value) (bs : List Int) (n : Int) (base : Nat) (w : World) (h : Row w base v bs) (hbase : base ≤ w.heap.size) (hb : bs.length ≤ 100000000000) :
    Calls Try.prog 42 #[v, .int .u32 n] w fun e w' => ∃ ao m c, e = .returned (.slice ao m c) ∧ Row w' base (.slice ao m c) (bs ++ be4 n) ∧ RStep w v w' (.slice ao m c) := by
  obtain ⟨cs, hcs⟩ : ∃ cs, cs = be4 n := ⟨_, rfl⟩
  have hl : cs.length = 4 := by rw [hcs]; rfl
  have hsl : Sl (w.alloc (.cells #[.int .u8 (n / 16777216 % 256), .int .u8 (n / 65536 % 256), .int .u8 (n / 256 % 256), .int .u8 (n % 256)] 5)) (.slice (some ⟨w.heap.size, 0, none⟩) 4 4) cs := by
    rw [hcs]; exact Sl.block (cs := [n / 16777216 % 256, n / 65536 % 256, n / 256 % 256, n % 256]) (t := 5) (heap_alloc_new w _) (by simp [maxLen])
  rw [← hcs]
  clear hcs
  go_enter Try.func42, Try.ntmps42
  go_wp2_with (at_builtin; refine wpList_append_row rfl _ _ rfl base v bs rfl (h.kept ((Kp.refl [] w).alloc _) (by simp)) _ cs rfl hsl (by omega) (by simp; omega) ?_; intro ao m c w1 r1 s1)
  go_ret
  exact ⟨ao, m, c, rfl, r1, s1.after ((Kp.refl [] w).alloc _)⟩

set_option maxHeartbeats 400000 in
theorem refbytes_any (v : Value) (bs : List Int) (vx : Value) (cs : List Int) (base : Nat) (w : World) (h : Row w base v bs) (hbase : base ≤ w.heap.size) (hb : bs.length + cs.length ≤ 100000000000) (hS : Sl w vx cs) (hk : ∀ w1, Kp v.ownBlock.toList w w1 → Sl w1 vx cs) :
    Calls Try.prog 43 #[v, vx] w fun e w' => ∃ ao m c, e = .returned (.slice ao m c) ∧ Row w' base (.slice ao m c) (bs ++ be2 cs.length ++ cs) ∧ RStep w v w' (.slice ao m c) := by
  obtain ⟨ax, cx, rfl, hx1, hx2, hx3, _⟩ := hS
  have HK := hide hk
  clear hk
  obtain ⟨ds, hds⟩ : ∃ ds, ds = be2 cs.length := ⟨_, rfl⟩
  have hl : ds.length = 2 := by rw [hds]; rfl
  have hsl : Sl (w.alloc (.cells #[.int .u8 ((cs.length : Int) / 256 % 256), .int .u8 ((cs.length : Int) % 256)] 5)) (.slice (some ⟨w.heap.size, 0, none⟩) 2 2) ds := by
    rw [hds]; exact Sl.block (cs := [(cs.length : Int) / 256 % 256, (cs.length : Int) % 256]) (t := 5) (heap_alloc_new w _) (by simp [maxLen])
  rw [← hds]
  clear hds
  go_enter Try.func43, Try.ntmps43
  go_wp2_with (first | (at_builtin; refine wpList_append_row rfl (.tmp 5) (.tmp 13) rfl base v bs rfl (h.kept ((Kp.refl [] w).alloc _) (by simp)) _ ds rfl hsl (by omega) (by simp; omega) ?_; intro ao m c w1 r1 s1; have s1' := s1.after ((Kp.refl [] w).alloc _); have hsx := unhide HK _ s1'.1) | (at_builtin; refine wpList_append_row rfl (.tmp 14) (.tmp 15) rfl base _ _ rfl r1 _ cs rfl hsx (by rw [List.length_append]; omega) (by have := s1'.1.size; omega) ?_; intro ao2 m2 c2 w2 r2 s2))
  go_ret
  exact ⟨ao2, m2, c2, rfl, r2, s1'.trans s2⟩

/-- onto a slice without room: it only makes memory. -/
theorem refbytes_full (v : Value) (bs : List Int) (vx : Value) (cs : List Int) (w : World) (h : Full bs v w) (hb : bs.length + cs.length ≤ 100000000000) (hS : Sl w vx cs) :
    Calls Try.prog 43 #[v, vx] w fun e w' => ∃ ao m c, e = .returned (.slice ao m c) ∧ Row w' w.heap.size (.slice ao m c) (bs ++ be2 cs.length ++ cs) ∧ Kp [] w w' := by
  obtain ⟨i0, hi0, hz0, hz1, hz2⟩ := info_parts Try.info5
  obtain ⟨⟨ad, rfl⟩, hV⟩ := h
  have HS := hide hS
  obtain ⟨ax, cx, rfl, hx1, hx2, hx3, _⟩ := hS
  obtain ⟨ds, hds⟩ : ∃ ds, ds = be2 cs.length := ⟨_, rfl⟩
  have hl : ds.length = 2 := by rw [hds]; rfl
  obtain ⟨ob, hob⟩ : ∃ o : Obj, o = .cells #[.int .u8 ((cs.length : Int) / 256 % 256), .int .u8 ((cs.length : Int) % 256)] 5 := ⟨_, rfl⟩
  have K1 : Kp [] w (w.alloc ob) := (Kp.refl [] w).alloc ob
  have hsl : Sl (w.alloc ob) (.slice (some ⟨w.heap.size, 0, none⟩) 2 2) ds := by
    rw [hds, hob]; exact Sl.block (cs := [(cs.length : Int) / 256 % 256, (cs.length : Int) % 256]) (t := 5) (heap_alloc_new w _) (by simp [maxLen])
  have hnews : ∀ j u, (ds.map (Value.int .u8))[j]? = some u → (w.alloc ob).cell? ((⟨w.heap.size, 0, none⟩ : Addr).add j) = some u := by
    obtain ⟨_, _, e, _, _, _, h4⟩ := hsl
    injection e with e1 e2 e3
    exact h4 _ e1.symm
  have holds : ∀ b, some ad = some b → ∀ j u, (bs.map (Value.int .u8))[j]? = some u → (w.alloc ob).cell? (b.add j) = some u := by
    obtain ⟨_, _, e, _, _, _, h4⟩ := hV.kept K1 (by simp)
    injection e with e1 e2 e3
    intro b hb'
    exact h4 _ (by rw [← e1]; exact hb')
  have hz : (w.alloc ob).heap.size = w.heap.size + 1 := by simp
  rw [← hds]
  rw [hob] at K1 hnews holds hz
  have HK1 := hide K1
  have HZ := hide hz
  clear hds hob hsl hz
  go_enter Try.func43, Try.ntmps43
  go_wp2_with (first
    | (at_builtin; refine wpList_append_grows _ rfl (.tmp 5) (.tmp 13) 23 rfl 5 i0 (.int .u8 0) 1 1 Try.underlying23 hi0 hz0 hz1 hz2 rfl (by omega) (some ad) bs.length bs.length (bs.map (Value.int .u8)) rfl (fun h => by cases h) (by simp) holds ⟨w.heap.size, 0, none⟩ 2 2 (ds.map (Value.int .u8)) rfl (by simp; omega) hnews (by simp [Value.oneCell']) (by omega) (by unfold maxLen; omega) (by omega) ?_; intro v1 w1 o1 g1; have R1 : Row w1 w.heap.size v1 (bs ++ ds) := (by rw [unhide HZ] at o1; have := owns_rebase (base' := w.heap.size) o1 (fun k hk => by have := (o1.lt k hk).1; omega); unfold Row; rw [List.map_append, List.length_append, hl]; exact this); have K2 := (unhide HK1).grown g1 (by intro k hk; cases hk); obtain ⟨b1, m1, y1, hv1⟩ : ∃ b m y, v1 = .slice b m y := (by obtain ⟨b, y, e⟩ := R1.shape; exact ⟨b, _, y, e⟩); subst hv1; have hsx := (unhide HS).kept K2 (by simp))
    | (at_builtin; refine wpList_append_row rfl (.tmp 14) (.tmp 15) rfl w.heap.size _ _ rfl R1 _ cs rfl hsx (by rw [List.length_append]; omega) (by have := K2.size; omega) ?_; intro ao2 m2 c2 w2 r2 s2))
  go_ret
  exact ⟨ao2, m2, c2, rfl, r2, R1.step K2 s2⟩
end Go.Proofs.Ytioflclfgkcpfaa

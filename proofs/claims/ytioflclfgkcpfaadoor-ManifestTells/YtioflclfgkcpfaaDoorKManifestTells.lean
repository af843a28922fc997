/-
  The statement ManifestTellsCardSaid: for all manifests, bytes and numbers the law function ManifestTells returns true and leaves its arguments as they were; the table hash.roundWords starts as the program's text lays it (tied). No other condition.
-/
import Derived.Test.YtioflclfgkcpfaaDoorKMLaw
import Derived.Test.YtioflclfgkcpfaaDoorKMArg
import Derived.Test.YtioflclfgkcpfaaDoorKLReach
import Derived.Test.YtioflclfgkcpfaaDoorKLSpot
import Derived.Test.YtioflclfgkcpfaaDoorKHRoomy
import Derived.Test.YtioflclfgkcpfaaDoorKRGrowX
import Derived.Test.YtioflclfgkcpfaaDoorTie
import Derived.Test.YtioflclfgkcpfaaDoorCards
import Derived.SevenTiedAt
namespace Go.Proofs.YtioflclfgkcpfaaDoor.manifestTells
open Go.ChangeShapes Go.WideShapes Go.ChangeAt Go.RowKit
open Go.Proofs.YtioflclfgkcpfaaDoor
set_option linter.unusedVariables false

theorem xor_b (x y : Int) : 0 ≤ bits .xor .u8 x y ∧ bits .xor .u8 x y ≤ 255 := by
  show 0 ≤ IntKind.u8.wrap _ ∧ IntKind.u8.wrap _ ≤ 255
  simp [IntKind.wrap, IntKind.signed, IntKind.bits]
  omega
theorem cut_m (v : Value) (bs : List Int) (n : Nat) (w : World) (h : Sl w v bs) :
    Calls Tryd.prog 9 #[v, .int .i64 n] w fun e w' => ∃ ao m c, e = .returned (.slice ao m c) ∧ Sl w (.slice ao m c) (bs.take n) ∧ w' = w := by
  refine (cut_any v bs n w h).mono ?_
  rintro e w' ⟨ao, c, rfl, hT, hw⟩
  exact ⟨ao, _, c, rfl, hT w h, hw⟩
def AnyT : Tell := fun _ _ => True
def K7 (g : Nat) (w w' : World) : Prop := Kp [g] w w' ∧ NoBy w [g]
theorem stableG_is7 (g : Nat) (c : Value) : Tell.stableG (K7 g) (Is c) := fun _ _ _ _ h => h
theorem stableG_any7 (g : Nat) : Tell.stableG (K7 g) AnyT := fun _ _ _ _ h => h
theorem stableG_sl7 (g : Nat) (bs : List Int) : Tell.stableG (K7 g) (SlT bs) := fun v w w' k h => by
  have h0 : Sl w v bs := h
  obtain ⟨ao, c, rfl, -⟩ := h
  exact h0.offBy k.2 k.1
/-- what was stored so far. -/
def GT (w0 : World) (g : Nat) (s S4 : ByteArray) (x : Int) (v2 v3 : Value) (listed : Array Bool) (a : Act) (w : World) : Prop :=
  Kp [g] w0 w ∧ ∃ (S : ByteArray) (a2 : Option Addr) (m2 c2 : Nat) (a3 : Option Addr) (m3 c3 : Nat), w.heap[g]? = some (.cells #[.string S, .int .u32 x, .slice a2 m2 c2, .slice a3 m3 c3] 25 (0, 0)) ∧
    (S = if listed.getD 12 false = true then S4 else s) ∧ (.slice a2 m2 c2 = if listed.getD 14 false = true then a.eval (.tmp 24) else v2) ∧ (.slice a3 m3 c3 = if listed.getD 16 false = true then a.eval (.tmp 27) else v3)
section
variable {w0 w w' : World} {g : Nat} {s S4 : ByteArray} {x : Int} {v2 v3 : Value} {listed : Array Bool} {a : Act} {l0 : List Oper}
theorem lst (hcl : ClosedL l0 listed) (i j : Nat) {oi : Oper} (hi : l0[i]? = some oi) (hd : j ∈ odeps oi) (hnot : listed.getD j false = false) : listed.getD i false = false := by
  cases h : listed.getD i false with
  | false => rfl
  | true => rw [hcl i oi hi h j hd] at hnot; cases hnot
theorem lst2 (hcl : ClosedL l0 listed) (i j k : Nat) {oi oj : Oper} (hi : l0[i]? = some oi) (hj : l0[j]? = some oj) (hd : j ∈ odeps oi) (he : k ∈ odeps oj) (hnot : listed.getD k false = false) : listed.getD i false = false :=
  lst hcl i j hi hd (lst hcl j k hj he hnot)
theorem lst4 (hcl : ClosedL l0 listed) (i j k m n : Nat) {oi oj ok om : Oper} (hi : l0[i]? = some oi) (hj : l0[j]? = some oj) (hk : l0[k]? = some ok) (hm : l0[m]? = some om) (h1 : j ∈ odeps oi) (h2 : k ∈ odeps oj) (h3 : m ∈ odeps ok) (h4 : n ∈ odeps om) (hnot : listed.getD n false = false) : listed.getD i false = false :=
  lst2 hcl i j k hi hj h1 h2 (lst2 hcl k m n hk hm h3 h4 hnot)
theorem GT.kp (h : GT w0 g s S4 x v2 v3 listed a w) : Kp [g] w0 w := h.1
theorem GT.no (h : GT w0 g s S4 x v2 v3 listed a w) : NoBy w [g] := by
  obtain ⟨_, S, a2, m2, c2, a3, m3, c3, hh, -⟩ := h
  exact noBy_man hh
theorem GT.k7 (h : GT w0 g s S4 x v2 v3 listed a w) (k : Kp [] w w') : K7 g w w' := ⟨k.mono (by simp), h.no⟩
theorem GT.c0 (h : GT w0 g s S4 x v2 v3 listed a w) (hl : listed.getD 12 false = false) : w.cell? ⟨g, 0, none⟩ = some (.string s) := by
  obtain ⟨_, S, a2, m2, c2, a3, m3, c3, hh, e, -⟩ := h
  rw [hl] at e
  rw [(cell_man hh).1, e]
  rfl
theorem GT.c2 {ao : Option Addr} {m c : Nat} (h : GT w0 g s S4 x (.slice ao m c) v3 listed a w) (hl : listed.getD 14 false = false) : w.cell? ⟨g, 2, none⟩ = some (.slice ao m c) := by
  obtain ⟨_, S, a2, m2, c2, a3, m3, c3, hh, _, e, -⟩ := h
  rw [hl] at e
  rw [(cell_man hh).2.2.1, e]
  rfl
theorem GT.c3 {ao : Option Addr} {m c : Nat} (h : GT w0 g s S4 x v2 (.slice ao m c) listed a w) (hl : listed.getD 16 false = false) : w.cell? ⟨g, 3, none⟩ = some (.slice ao m c) := by
  obtain ⟨_, S, a2, m2, c2, a3, m3, c3, hh, _, _, e⟩ := h
  rw [hl] at e
  rw [(cell_man hh).2.2.2, e]
  rfl
theorem GT.free (h : GT w0 g s S4 x v2 v3 listed a w) (k : Nat) (hk : k ≠ 12 ∧ k ≠ 14 ∧ k ≠ 16) (d : Tmp) (h24 : d = 24 → listed.getD 14 false = false) (h27 : d = 27 → listed.getD 16 false = false) (v : Value) (K : Kp [] w w') : GT w0 g s S4 x v2 v3 (listed.setIfInBounds k true) (a.put (some d) v) w' := by
  obtain ⟨h0, S, a2, m2, c2, a3, m3, c3, hh, e0, e2, e3⟩ := h
  refine ⟨h0.trans (K.mono (by simp)), S, a2, m2, c2, a3, m3, c3, K.heap hh (by simp), ?_, ?_, ?_⟩
  · rw [getD_set_ne false hk.1]; exact e0
  · rw [getD_set_ne false hk.2.1]
    by_cases hd : d = 24
    · rw [h24 hd] at e2 ⊢; exact e2
    · rw [eval_put_ne hd]; exact e2
  · rw [getD_set_ne false hk.2.2]
    by_cases hd : d = 27
    · rw [h27 hd] at e3 ⊢; exact e3
    · rw [eval_put_ne hd]; exact e3
theorem getD_set_self (k : Nat) (hk : k < listed.size) : (listed.setIfInBounds k true).getD k false = true := by simp [hk]
theorem wantsG_skip {K : World → World → Prop} {G : Act → World → Prop} {ops : Array Oper} {o : Oper} {R : Tell} (hg : o.guard = none) (hrun : (execOp a.eval o).run Tryd.prog w = .ok .skip w' ∨ (execOp a.eval o).run Tryd.prog w = .ok (.value undef) w') (h : (K w w' ∧ G (a.put o.dst undef) w') ∧ R undef w') : wantsG K G Tryd.prog ops o a w R := by
  unfold wantsG
  rw [if_pos (by simp [Region.wanted, hg])]
  rcases hrun with e | e <;> rw [e] <;> exact h
theorem st_run {o : Oper} {T : TypeId} {p u : Operand} {j : Nat} {v y : Value} (ho : o.op = .store T p u) (hp : a.eval p = .pointer (some ⟨g, j, none⟩)) (hu : a.eval u = v) (hc : w.cell? ⟨g, j, none⟩ = some y) (hf : w.frozen? ⟨g, j, none⟩ = false) (hT : (T = 9 ∧ ∃ S, v = .string S) ∨ (T = 23 ∧ ∃ ao m c, v = .slice ao m c)) : (execOp a.eval o).run Tryd.prog w = .ok .skip (w.setCell ⟨g, j, none⟩ v) ∨ (execOp a.eval o).run Tryd.prog w = .ok (.value undef) (w.setCell ⟨g, j, none⟩ v) := by
  obtain ⟨ρ, hρ, _⟩ := eval_is a
  rw [hρ] at hp hu ⊢
  unfold execOp
  simp only [ho]
  rcases hT with ⟨rfl, S, rfl⟩ | ⟨rfl, ao, m, c, rfl⟩ <;> simp [go_sem, hp, hu, hc, hf]
theorem GT.st0 {ops : Array Oper} {o : Oper} (h : GT w0 g s S4 x v2 v3 listed a w) (hsz : 12 < listed.size) (hg : o.guard = none) (hod : o.op = .store 9 (.tmp 28) (.tmp 21) ∧ o.dst = none) (hp : a.eval (.tmp 28) = .pointer (some ⟨g, 0, none⟩)) (hu : a.eval (.tmp 21) = .string S4) : wantsG (K7 g) (GT w0 g s S4 x v2 v3 (listed.setIfInBounds 12 true)) Tryd.prog ops o a w AnyT := by
  have hno := h.no
  obtain ⟨h0, S, a2, m2, c2, a3, m3, c3, hh, e0, e2, e3⟩ := h
  have k := setCell_kpm w g 0 (.string S4)
  refine wantsG_skip hg (st_run hod.1 hp hu (cell_man hh).1 (frozen_of_row w g 0 _ _ hh) (.inl ⟨rfl, S4, rfl⟩)) ⟨⟨⟨k, hno⟩, h0.trans k, S4, a2, m2, c2, a3, m3, c3, by simpa using heap_setCell_same w g 0 _ _ (.string S4) hh, ?_, ?_, ?_⟩, trivial⟩
  · rw [getD_set_self 12 hsz]; rfl
  · rw [getD_set_ne false (by decide), hod.2]; exact e2
  · rw [getD_set_ne false (by decide), hod.2]; exact e3
theorem GT.st2 {ops : Array Oper} {o : Oper} {bs : List Int} (h : GT w0 g s S4 x v2 v3 listed a w) (hsz : 14 < listed.size) (hg : o.guard = none) (hod : o.op = .store 23 (.tmp 29) (.tmp 24) ∧ o.dst = none) (hp : a.eval (.tmp 29) = .pointer (some ⟨g, 2, none⟩)) (hu : SlT bs (a.eval (.tmp 24)) w) : wantsG (K7 g) (GT w0 g s S4 x v2 v3 (listed.setIfInBounds 14 true)) Tryd.prog ops o a w AnyT := by
  have hno := h.no
  obtain ⟨h0, S, a2, m2, c2, a3, m3, c3, hh, e0, e2, e3⟩ := h
  obtain ⟨ao, c, hv, -⟩ := hu
  have k := setCell_kpm w g 2 (.slice ao bs.length c)
  refine wantsG_skip hg (st_run hod.1 hp hv (cell_man hh).2.2.1 (frozen_of_row w g 2 _ _ hh) (.inr ⟨rfl, ao, _, c, rfl⟩)) ⟨⟨⟨k, hno⟩, h0.trans k, S, ao, bs.length, c, a3, m3, c3, by simpa using heap_setCell_same w g 2 _ _ (.slice ao bs.length c) hh, ?_, ?_, ?_⟩, trivial⟩
  · rw [getD_set_ne false (by decide)]; exact e0
  · rw [getD_set_self 14 hsz, hod.2]; exact hv.symm
  · rw [getD_set_ne false (by decide), hod.2]; exact e3
theorem GT.st3 {ops : Array Oper} {o : Oper} {bs : List Int} (h : GT w0 g s S4 x v2 v3 listed a w) (hsz : 16 < listed.size) (hg : o.guard = none) (hod : o.op = .store 23 (.tmp 30) (.tmp 27) ∧ o.dst = none) (hp : a.eval (.tmp 30) = .pointer (some ⟨g, 3, none⟩)) (hu : SlT bs (a.eval (.tmp 27)) w) : wantsG (K7 g) (GT w0 g s S4 x v2 v3 (listed.setIfInBounds 16 true)) Tryd.prog ops o a w AnyT := by
  have hno := h.no
  obtain ⟨h0, S, a2, m2, c2, a3, m3, c3, hh, e0, e2, e3⟩ := h
  obtain ⟨ao, c, hv, -⟩ := hu
  have k := setCell_kpm w g 3 (.slice ao bs.length c)
  refine wantsG_skip hg (st_run hod.1 hp hv (cell_man hh).2.2.2 (frozen_of_row w g 3 _ _ hh) (.inr ⟨rfl, ao, _, c, rfl⟩)) ⟨⟨⟨k, hno⟩, h0.trans k, S, a2, m2, c2, ao, bs.length, c, by simpa using heap_setCell_same w g 3 _ _ (.slice ao bs.length c) hh, ?_, ?_, ?_⟩, trivial⟩
  · rw [getD_set_ne false (by decide)]; exact e0
  · rw [getD_set_ne false (by decide), hod.2]; exact e2
  · rw [getD_set_self 16 hsz, hod.2]; exact hv.symm
theorem wantsG_of1 {K : World → World → Prop} {G : Act → World → Prop} {ops : Array Oper} {o : Oper} {R : Tell} (hK : ∀ w', Kp [] w w' → K w w') (hG : ∀ v w', Kp [] w w' → G (a.put o.dst v) w') (h : wants Tryd.prog ops o a w R) : wantsG K G Tryd.prog ops o a w R := by
  unfold wants at h
  unfold wantsG
  split
  · rename_i hw
    rw [if_pos hw] at h
    generalize (execOp a.eval o).run Tryd.prog w = r at *
    cases r with
    | ok x w' =>
      cases x <;> simp only [grown] at h <;> simp only [grownG]
      case value v => exact ⟨⟨hK _ h.1, hG v w' h.1⟩, h.2⟩
      case skip => exact ⟨⟨hK _ h.1, hG undef w' h.1⟩, h.2⟩
      case enter f args =>
        refine h.mono ?_
        rintro e w'' ⟨v, rfl, h1, h2⟩
        exact ⟨v, rfl, ⟨hK _ h1, hG v w'' h1⟩, h2⟩
    | halt x w' => simp only [grown] at h
  · rename_i hw
    rw [if_neg hw] at h
    exact ⟨⟨hK _ (Kp.refl _ _), hG undef w (Kp.refl _ _)⟩, h⟩
end

set_option maxRecDepth 100000 in
set_option maxHeartbeats 4000000 in
theorem walk (vm : Value) (m : Mf) (vb : Value) (bs : List Int) (ia iv jf at' : Int) (turn : Int) (w : World) (hG : Gl w) (hM : MV w vm m) (zM : m.s.size ≤ 9223372036854775807) (hS : Sl w vb bs) (hB : Bs bs) (zB : bs.length ≤ 140737488351232) (ha : -9223372036854775808 ≤ ia ∧ ia ≤ 9223372036854775807) (hv : -9223372036854775808 ≤ iv ∧ iv ≤ 9223372036854775807) (hf : -9223372036854775808 ≤ jf ∧ jf ≤ 9223372036854775807) (hat : -9223372036854775808 ≤ at' ∧ at' ≤ 9223372036854775807) (hturn : 0 ≤ turn ∧ turn ≤ 255) :
    Calls Tryd.prog 4 #[vm, vb, .int .i64 ia, .int .i64 iv, .int .i64 jf, .int .i64 at', .int .u8 turn] w fun e w' => e = .returned (.bool true) ∧ Below w.heap.size w w' := by
  have HG := hide hG
  have HSB := hide hS
  have HB := hide hB
  have HZB := hide zB
  have hMok := hM.ok
  obtain ⟨af, nf, cf, an, nn, cn, rfl, hF, hN, -⟩ := hM
  obtain ⟨s, x, f, n⟩ := m
  simp only at hF hN zM ⊢
  obtain ⟨ab, cb, hvb, -⟩ := hS
  obtain ⟨nb, hnb⟩ : ∃ n, n = bs.length := ⟨_, rfl⟩
  rw [← hnb] at hvb
  subst hvb
  obtain ⟨g7, hg7⟩ : ∃ g, g = w.heap.size := ⟨_, rfl⟩
  obtain ⟨w0, hw0⟩ : ∃ w0, w0 = w.alloc (.cells #[.string s, .int .u32 x, .slice af nf cf, .slice an nn cn] 25) := ⟨_, rfl⟩
  have K0 : Kp [] w w0 := by rw [hw0]; exact (Kp.refl [] w).alloc _
  have G0 : w0.heap[g7]? = some (.cells #[.string s, .int .u32 x, .slice af nf cf, .slice an nn cn] 25 (0, 0)) := by rw [hw0, hg7]; exact heap_alloc_new w _
  have HKd : Hid (Kp [g7] w w0.drew) := (K0.trans (kp_drew w0)).mono (by simp)
  have HF := hide hF
  have HN := hide hN
  have HG0 := hide G0
  have HSZ := hide zM
  obtain ⟨S4, hS4⟩ : ∃ S, S = strOfNums ((nums s).take 40) := ⟨_, rfl⟩
  have HS4 := hide hS4
  have HK0 := hide K0
  have HW0 := hide hw0
  have HGW := hide hg7
  have HNB := hide hnb
  have HMOK := hide hMok
  have HAT := hide hat
  have HTU := hide hturn
  clear hG hB zB hMok hF hN zM hnb hg7 hw0 K0 G0 hS4 ha hv hf hat hturn
  go_enter Tryd.func4, Tryd.ntmps4
  go_wp2_with fail
  rw [← unhide HW0, ← unhide HGW]
  refine region_growL (K := K7 g7) (G := GT w0.drew g7 s S4 x (.slice af nf cf) (.slice an nn cn)) Tryd.mixed [Is (.pointer (some ⟨g7, 0, none⟩)), Is (.string s), SlT (nums s), SlT ((nums s).take 40), Is (.string S4), Is (.pointer (some ⟨g7, 2, none⟩)), Is (.slice af nf cf), SlT (f.take 50), Is (.pointer (some ⟨g7, 3, none⟩)), Is (.slice an nn cn), SlT (n.take 100), Is (.pointer (some ⟨g7, 0, none⟩)), AnyT, Is (.pointer (some ⟨g7, 2, none⟩)), AnyT, Is (.pointer (some ⟨g7, 3, none⟩)), AnyT] [[(7, none)], [(17, some 0)], [(18, some 1)], [(19, some 2)], [(20, some 3)], [(7, none)], [(22, some 5)], [(23, some 6)], [(7, none)], [(25, some 8)], [(26, some 9)], [(7, none)], [(28, some 11), (21, some 4)], [(7, none)], [(29, some 13), (24, some 7)], [(7, none)], [(30, some 15), (27, some 10)]] (by kernel_rfl) ?_ ?_ ?_ ?_ ?_
  · intro k R hR hd w'
    have hk : k < 17 := by have := (List.getElem?_eq_some_iff.1 hR).1; simpa using this
    rcases (by omega : k = 0 ∨ k = 1 ∨ k = 2 ∨ k = 3 ∨ k = 4 ∨ k = 5 ∨ k = 6 ∨ k = 7 ∨ k = 8 ∨ k = 9 ∨ k = 10 ∨ k = 11 ∨ k = 12 ∨ k = 13 ∨ k = 14 ∨ k = 15 ∨ k = 16) with rfl | rfl | rfl | rfl | rfl | rfl | rfl | rfl | rfl | rfl | rfl | rfl | rfl | rfl | rfl | rfl | rfl <;> first | (cases hR; exact trivial) | cases hd
  · simp only [List.mem_cons, List.not_mem_nil, or_false]
    intro R hR
    rcases hR with rfl | rfl | rfl | rfl | rfl | rfl | rfl | rfl | rfl | rfl | rfl | rfl | rfl | rfl | rfl | rfl | rfl <;> first | exact stableG_is7 _ _ | exact stableG_sl7 _ _ | exact stableG_any7 _
  · exact ⟨Kp.refl _ _, s, af, nf, cf, an, nn, cn, (kp_drew w0).heap (unhide HG0) (by simp), by simp, by simp, by simp⟩
  · refine steps_consL (fun listed a w hnot hdep hcl hsz hg hn => ?_) ?_
    · have h7 : a.eval (.tmp 7) = .pointer (some ⟨g7, 0, none⟩) := hn.1
      clear hn
      refine wantsG_of1 (fun w' k => hg.k7 k) (fun v w' k => hg.free 0 (by decide) 17 (fun e => absurd e (by decide)) (fun e => absurd e (by decide)) v k) ?_
      refine wants_plain rfl ?_
      exact grown_mfld (.tmp 7) 0 (by omega) rfl h7
    refine steps_consL (fun listed a w hnot hdep hcl hsz hg hn => ?_) ?_
    · have h17 : a.eval (.tmp 17) = .pointer (some ⟨g7, 0, none⟩) := hn.1
      clear hn
      refine wantsG_of1 (fun w' k => hg.k7 k) (fun v w' k => hg.free 1 (by decide) 18 (fun e => absurd e (by decide)) (fun e => absurd e (by decide)) v k) ?_
      refine wants_plain rfl ?_
      exact grown_lds (.tmp 17) rfl 0 _ h17 (hg.c0 (lst4 hcl 12 4 3 2 1 rfl rfl rfl rfl (by decide) (by decide) (by decide) (by decide) hnot))
    refine steps_consL (fun listed a w hnot hdep hcl hsz hg hn => ?_) ?_
    · have h18 : a.eval (.tmp 18) = .string s := hn.1
      clear hn
      refine wantsG_of1 (fun w' k => hg.k7 k) (fun v w' k => hg.free 2 (by decide) 19 (fun e => absurd e (by decide)) (fun e => absurd e (by decide)) v k) ?_
      refine wants_plain rfl ?_
      exact grown_convS (.tmp 18) s (unhide HSZ) rfl h18
    refine steps_consL (fun listed a w hnot hdep hcl hsz hg hn => ?_) ?_
    · have h19 : (SlT (nums s)) (a.eval (.tmp 19)) w := hn.1
      clear hn
      refine wantsG_of1 (fun w' k => hg.k7 k) (fun v w' k => hg.free 3 (by decide) 20 (fun e => absurd e (by decide)) (fun e => absurd e (by decide)) v k) ?_
      refine wants_plain rfl ?_
      refine grown_call (f := 9) rfl Tryd.func9 (by kernel_rfl) (by kernel_rfl) ?_
      simp only [List.map_toArray, List.map_cons, List.map_nil]
      refine (cut_m _ (nums s) 40 w h19).mono ?_
      rintro e w' ⟨ao, m, c, rfl, hT, hw⟩
      subst hw
      exact ⟨_, rfl, Kp.refl _ _, hT⟩
    refine steps_consL (fun listed a w hnot hdep hcl hsz hg hn => ?_) ?_
    · have h20 : (SlT ((nums s).take 40)) (a.eval (.tmp 20)) w := hn.1
      clear hn
      refine wantsG_of1 (fun w' k => hg.k7 k) (fun v w' k => hg.free 4 (by decide) 21 (fun e => absurd e (by decide)) (fun e => absurd e (by decide)) v k) ?_
      refine wants_plain rfl ?_
      exact grown_conv (.tmp 20) _ _ 5 _ rfl h20 Tryd.underlying23 Tryd.underlying5 Tryd.underlying9 (congrArg Value.string (unhide HS4).symm)
    refine steps_consL (fun listed a w hnot hdep hcl hsz hg hn => ?_) ?_
    · have h7 : a.eval (.tmp 7) = .pointer (some ⟨g7, 0, none⟩) := hn.1
      clear hn
      refine wantsG_of1 (fun w' k => hg.k7 k) (fun v w' k => hg.free 5 (by decide) 22 (fun e => absurd e (by decide)) (fun e => absurd e (by decide)) v k) ?_
      refine wants_plain rfl ?_
      exact grown_mfld (.tmp 7) 2 (by omega) rfl h7
    refine steps_consL (fun listed a w hnot hdep hcl hsz hg hn => ?_) ?_
    · have h22 : a.eval (.tmp 22) = .pointer (some ⟨g7, 2, none⟩) := hn.1
      clear hn
      refine wantsG_of1 (fun w' k => hg.k7 k) (fun v w' k => hg.free 6 (by decide) 23 (fun e => absurd e (by decide)) (fun e => absurd e (by decide)) v k) ?_
      refine wants_plain rfl ?_
      exact grown_ldb (.tmp 22) rfl 2 _ _ _ h22 (hg.c2 (lst2 hcl 14 7 6 rfl rfl (by decide) (by decide) hnot))
    refine steps_consL (fun listed a w hnot hdep hcl hsz hg hn => ?_) ?_
    · have h23 : a.eval (.tmp 23) = .slice af nf cf := hn.1
      clear hn
      refine wantsG_of1 (fun w' k => hg.k7 k) (fun v w' k => hg.free 7 (by decide) 24 (fun _ => lst hcl 14 7 rfl (by decide) hnot) (fun e => absurd e (by decide)) v k) ?_
      refine wants_plain rfl ?_
      refine grown_call (f := 9) rfl Tryd.func9 (by kernel_rfl) (by kernel_rfl) ?_
      simp only [List.map_toArray, List.map_cons, List.map_nil, h23]
      refine (cut_m _ f 50 w ((unhide HF).old ((unhide HKd).trans hg.kp) (fun i _ hi hm => by have := unhide HGW; simp at hm; omega))).mono ?_
      rintro e w' ⟨ao, m, c, rfl, hT, hw⟩
      subst hw
      exact ⟨_, rfl, Kp.refl _ _, hT⟩
    refine steps_consL (fun listed a w hnot hdep hcl hsz hg hn => ?_) ?_
    · have h7 : a.eval (.tmp 7) = .pointer (some ⟨g7, 0, none⟩) := hn.1
      clear hn
      refine wantsG_of1 (fun w' k => hg.k7 k) (fun v w' k => hg.free 8 (by decide) 25 (fun e => absurd e (by decide)) (fun e => absurd e (by decide)) v k) ?_
      refine wants_plain rfl ?_
      exact grown_mfld (.tmp 7) 3 (by omega) rfl h7
    refine steps_consL (fun listed a w hnot hdep hcl hsz hg hn => ?_) ?_
    · have h25 : a.eval (.tmp 25) = .pointer (some ⟨g7, 3, none⟩) := hn.1
      clear hn
      refine wantsG_of1 (fun w' k => hg.k7 k) (fun v w' k => hg.free 9 (by decide) 26 (fun e => absurd e (by decide)) (fun e => absurd e (by decide)) v k) ?_
      refine wants_plain rfl ?_
      exact grown_ldb (.tmp 25) rfl 3 _ _ _ h25 (hg.c3 (lst2 hcl 16 10 9 rfl rfl (by decide) (by decide) hnot))
    refine steps_consL (fun listed a w hnot hdep hcl hsz hg hn => ?_) ?_
    · have h26 : a.eval (.tmp 26) = .slice an nn cn := hn.1
      clear hn
      refine wantsG_of1 (fun w' k => hg.k7 k) (fun v w' k => hg.free 10 (by decide) 27 (fun e => absurd e (by decide)) (fun _ => lst hcl 16 10 rfl (by decide) hnot) v k) ?_
      refine wants_plain rfl ?_
      refine grown_call (f := 9) rfl Tryd.func9 (by kernel_rfl) (by kernel_rfl) ?_
      simp only [List.map_toArray, List.map_cons, List.map_nil, h26]
      refine (cut_m _ n 100 w ((unhide HN).old ((unhide HKd).trans hg.kp) (fun i _ hi hm => by have := unhide HGW; simp at hm; omega))).mono ?_
      rintro e w' ⟨ao, m, c, rfl, hT, hw⟩
      subst hw
      exact ⟨_, rfl, Kp.refl _ _, hT⟩
    refine steps_consL (fun listed a w hnot hdep hcl hsz hg hn => ?_) ?_
    · have h7 : a.eval (.tmp 7) = .pointer (some ⟨g7, 0, none⟩) := hn.1
      clear hn
      refine wantsG_of1 (fun w' k => hg.k7 k) (fun v w' k => hg.free 11 (by decide) 28 (fun e => absurd e (by decide)) (fun e => absurd e (by decide)) v k) ?_
      refine wants_plain rfl ?_
      exact grown_mfld (.tmp 7) 0 (by omega) rfl h7
    refine steps_consL (fun listed a w hnot hdep hcl hsz hg hn => ?_) ?_
    · have h28 : a.eval (.tmp 28) = .pointer (some ⟨g7, 0, none⟩) := hn.1
      have h21 : a.eval (.tmp 21) = .string S4 := hn.2.1
      clear hn
      exact hg.st0 hsz rfl ⟨rfl, rfl⟩ h28 h21
    refine steps_consL (fun listed a w hnot hdep hcl hsz hg hn => ?_) ?_
    · have h7 : a.eval (.tmp 7) = .pointer (some ⟨g7, 0, none⟩) := hn.1
      clear hn
      refine wantsG_of1 (fun w' k => hg.k7 k) (fun v w' k => hg.free 13 (by decide) 29 (fun e => absurd e (by decide)) (fun e => absurd e (by decide)) v k) ?_
      refine wants_plain rfl ?_
      exact grown_mfld (.tmp 7) 2 (by omega) rfl h7
    refine steps_consL (fun listed a w hnot hdep hcl hsz hg hn => ?_) ?_
    · have h29 : a.eval (.tmp 29) = .pointer (some ⟨g7, 2, none⟩) := hn.1
      have h24 : (SlT (f.take 50)) (a.eval (.tmp 24)) w := hn.2.1
      clear hn
      exact hg.st2 hsz rfl ⟨rfl, rfl⟩ h29 h24
    refine steps_consL (fun listed a w hnot hdep hcl hsz hg hn => ?_) ?_
    · have h7 : a.eval (.tmp 7) = .pointer (some ⟨g7, 0, none⟩) := hn.1
      clear hn
      refine wantsG_of1 (fun w' k => hg.k7 k) (fun v w' k => hg.free 15 (by decide) 30 (fun e => absurd e (by decide)) (fun e => absurd e (by decide)) v k) ?_
      refine wants_plain rfl ?_
      exact grown_mfld (.tmp 7) 3 (by omega) rfl h7
    refine steps_consL (fun listed a w hnot hdep hcl hsz hg hn => ?_) ?_
    · have h30 : a.eval (.tmp 30) = .pointer (some ⟨g7, 3, none⟩) := hn.1
      have h27 : (SlT (n.take 100)) (a.eval (.tmp 27)) w := hn.2.1
      clear hn
      exact hg.st3 hsz rfl ⟨rfl, rfl⟩ h30 h27
    exact trivial
  intro W1
  rintro _ rfl
  rintro _ rfl
  intro v19 h19
  intro v20 h20
  rintro _ rfl
  rintro _ rfl
  rintro _ rfl
  intro v24 h24
  rintro _ rfl
  rintro _ rfl
  intro v27 h27
  rintro _ rfl
  intro _ _
  rintro _ rfl
  intro _ _
  rintro _ rfl
  intro _ _
  intro listed hall hG
  obtain ⟨KG, S, a2, m2, c2, a3, m3, c3, hh, e0, e2, e3⟩ := hG
  have l12 : listed.getD 12 false = true := hall 12 (by simp)
  have l14 : listed.getD 14 false = true := hall 14 (by simp)
  have l16 : listed.getD 16 false = true := hall 16 (by simp)
  rw [l12, if_pos rfl] at e0
  rw [l14, if_pos rfl] at e2
  rw [l16, if_pos rfl] at e3
  simp only [Act.put, List.set_cons_zero, List.set_cons_succ, List.setIfInBounds_toArray] at e2 e3
  have e2' : Value.slice a2 m2 c2 = v24 := e2
  have e3' : Value.slice a3 m3 c3 = v27 := e3
  subst e0
  subst e2'
  subst e3'
  have h24' : Sl W1 (.slice a2 m2 c2) (f.take 50) := h24
  have h27' : Sl W1 (.slice a3 m3 c3) (n.take 100) := h27
  have hok := unhide HMOK
  have HV1 : Hid (MV W1 (.agg #[.string S, .int .u32 x, .slice a2 m2 c2, .slice a3 m3 c3]) ⟨S, x, f.take 50, n.take 100⟩) := ⟨_, _, _, _, _, _, rfl, h24', h27', ⟨hok.v0, hok.v1, hok.f.take 50, hok.n.take 100⟩⟩
  have HSS : Hid (S.size ≤ 1000) := hide (by rw [unhide HS4, str_size, List.length_take]; omega)
  have KW : Kp [] w W1 := ((unhide HK0).trans (kp_drew w0)).then KG (fun i hi => .inr (by have := unhide HGW; simp at hi; omega))
  have HKW := hide KW
  have HGh := hide hh
  have hg7w : Hid (w.heap.size ≤ g7) := hide (by have := unhide HGW; omega)
  obtain ⟨m4, hm4⟩ : ∃ m : Mf, m = ⟨S, x, f.take 50, n.take 100⟩ := ⟨_, rfl⟩
  rw [← hm4] at HV1
  have HM4S : Hid (m4.s.size ≤ 1000) := hide (by rw [hm4]; exact unhide HSS)
  have HC := hide (kitem_any ia iv jf W1)
  obtain ⟨B, hBe⟩ : ∃ B, B = encM (mkM ia iv jf) := ⟨_, rfl⟩
  rw [← hBe] at HC
  have HBB : Hid (Bs B) := hide (by rw [hBe]; exact encM_bs _ (mkM_ok _ _ _))
  have HBL : Hid (9 ≤ B.length ∧ B.length ≤ 200) := hide (by
    obtain ⟨q1, q2, q3, q4⟩ := (rgtM_iff _).1 (mkM_rgt ia iv jf)
    have := nameP_len q1
    rw [hBe, encM_len]; omega)
  clear KG hh e2 e3 h24 h27 h24' h27' hok KW hm4 hBe hall l12 l14 l16 HF HN HG0 HKd HK0 HW0 HMOK h19 h20
  simp only [Act.put, List.set_cons_zero, List.set_cons_succ, List.setIfInBounds_toArray]
  go_wp2_with fail
  refine (unhide HC).mono ?_
  rintro ee w2 ⟨a5, L, c5, rfl, R5, K5⟩
  have hLB := R5.len
  have hL9 := unhide HBL
  rw [← hLB] at hL9
  obtain ⟨hL0, hL1⟩ := hL9
  have HC2 := hide (within_any at' 0 ((L : Int) - 1) w2 (by omega) (by omega) (by omega) (unhide HAT))
  obtain ⟨gx, rfl, hgx0, hgx1, hcells, hfz, hset⟩ := R5.spot (by omega)
  have HR5 := hide R5
  have HCE := hide hcells
  have HFZ := hide hfz
  have HSET := hide hset
  have HLB := hide hLB
  have HK5 := hide K5
  clear HC R5 K5 hcells hfz hset hLB
  go_wp2_with fail
  refine (unhide HC2).mono ?_
  rintro ee w9 ⟨xk, rfl, hx0, hx1, hw9⟩
  subst w9
  obtain ⟨k, rfl⟩ := Int.eq_ofNat_of_zero_le hx0
  have hkL : k < L := by omega
  have hkLi : (k : Int) < (L : Int) := by omega
  have hkB : k < B.length := by have := unhide HLB; omega
  have hck := unhide HCE k hkB
  have hfk := unhide HFZ k
  obtain ⟨y, hy⟩ : ∃ y, y = B[k] := ⟨_, rfl⟩
  rw [← hy] at hck
  obtain ⟨z, hz⟩ : ∃ z, z = bits .xor .u8 y turn := ⟨_, rfl⟩
  have hzb : 0 ≤ z ∧ z ≤ 255 := by rw [hz]; exact xor_b y turn
  obtain ⟨w3, hw3⟩ : ∃ w3, w3 = w2.setCell ⟨gx, k, none⟩ (.int .u8 z) := ⟨_, rfl⟩
  have K3 : Kp [gx] w2 w3 := by rw [hw3]; exact setCell_kpm w2 gx k _
  have R3 : Row w3 W1.heap.size (.slice (some ⟨gx, 0, none⟩) L c5) (B.set k z) := by rw [hw3]; exact unhide HSET k z
  have K13 : Kp [] W1 w3 := (unhide HK5).then K3 (fun i hi => .inr (by simp at hi; omega))
  have HB3 : Hid (Bs (B.set k z)) := hide (fun b hb => by
    rcases List.mem_or_eq_of_mem_set hb with h | h
    · exact unhide HBB b h
    · rw [h]; exact hzb)
  have HL3 : Hid ((B.set k z).length ≤ 200) := hide (by rw [List.length_set]; exact (unhide HBL).2)
  have HR3 := hide R3
  have HK13 := hide K13
  have HK03 := hide ((unhide HKW).trans K13)
  have HV3 := hide ((unhide HV1).kept K13)
  have HG3 := hide (K13.heap (unhide HGh) (by simp))
  have hSb3 : Sl w3 (.slice ab nb cb) bs := (unhide HSB).kept (unhide HK03) (by simp)
  have HC4 := hide (roomy_any (.slice ab nb cb) bs 165 w3 hSb3 (unhide HZB))
  have HW3 := hide hw3
  have HZ := hide hz
  clear HC2 hx0 hx1 hkL hkB hy hz hzb hw3 K3 R3 K13 hSb3 HCE HFZ HSET HR5 HK5 HV1 HGh hgx0 hgx1
  go_wp2_with fail
  rw [← unhide HZ, ← unhide HW3]
  refine (unhide HC4).mono ?_
  rintro ee w4 ⟨gr, N, rfl, hN, R4, K4⟩
  obtain ⟨z0, z1, z2, z3⟩ := cell_man (K4.heap (unhide HG3) (by simp))
  have HV4 := hide ((unhide HV3).kept K4)
  have HK4 := hide ((unhide HK03).trans K4)
  have HR34 := hide ((unhide HR3).kept K4 (by simp))
  have HRlt : Hid (gx < w4.heap.size) := hide (by have := (World.ownsRow.lt (unhide HR3) gx rfl).2; have := K4.size; omega)
  have hR4s : Sl w4 (.slice (some ⟨gr, 0, none⟩) N N) (bs ++ List.replicate 80 165) := Sl.of_owns R4
  have HR4 := hide hR4s
  have HR4lt : Hid (gr < w4.heap.size) := hide (R4.lt gr rfl).2
  have HNN := hide hN
  have HC5 := hide (lsame_any _ m4 w4 (unhide HV4) (unhide HM4S))
  clear HC4 R4 K4 hR4s hN HV3 HK03 HR3 HG3 hck hfk
  go_wp2_with fail
  refine (unhide HC5).mono ?_
  rintro ee w5 ⟨rfl, K5⟩
  have HK5 := hide K5
  have HC6 := hide (kman_any ia iv jf w5)
  clear HC5 K5 z0 z1 z2 z3
  go_wp2_with fail
  refine (unhide HC6).mono ?_
  rintro ee w6 ⟨v6, rfl, V6, K6⟩
  have HC7 := hide (lsame_any _ (mkM ia iv jf) w6 V6 (by have := mkM_size ia iv jf; omega))
  have HK6 := hide ((unhide HK5).trans K6)
  obtain ⟨a6, n6, c6, b6, p6, q6, rfl, -⟩ := V6
  obtain ⟨s6, hs6⟩ : ∃ s, s = (mkM ia iv jf).s := ⟨_, rfl⟩
  obtain ⟨x6, hx6⟩ : ∃ s, s = (mkM ia iv jf).v := ⟨_, rfl⟩
  rw [← hs6, ← hx6] at HC7 ⊢
  clear HC6 K6 HK5 hs6 hx6
  go_wp2_with fail
  refine (unhide HC7).mono ?_
  rintro ee w7 ⟨rfl, K7'⟩
  have HK7 := hide ((unhide HK6).trans K7')
  have hvx : ∀ i, (Value.slice (some ⟨gx, 0, none⟩) L c5).ownBlock = some i → i < w7.heap.size := fun i hi => by
    have e : gx = i := by simpa [Value.ownBlock] using hi
    have h1 := unhide HRlt
    have h2 := (unhide HK7).size
    omega
  have HC8 := hide (lreads_any (.slice (some ⟨gx, 0, none⟩) L c5) (B.set k z) w7 ((unhide HR34).sl.kept (unhide HK7) (by simp)) (unhide HB3) (by have := unhide HL3; omega) hvx ((unhide HG).kept ((unhide HK4).trans (unhide HK7)) (by simp)))
  clear hvx
  clear HC7 K7' HK6
  go_wp2_with fail
  refine (unhide HC8).mono ?_
  rintro ee w8 ⟨rfl, K8⟩
  have HK8 := hide ((unhide HK7).trans K8)
  have hnN : (nb : Int) ≤ (N : Int) := by have := unhide HNN; have := unhide HNB; omega
  have hnb0 : (0 : Int) ≤ (nb : Int) := by omega
  have hSf : Sl w8 (.slice (some ⟨gr, 0, none⟩) N N) (bs ++ List.replicate 80 165) := (unhide HR4).kept (unhide HK8) (by simp)
  have hSt : Sl w8 (.slice (some ⟨gr, 0, none⟩) nb N) bs := by
    have := hSf.take nb (by have := unhide HNB; rw [List.length_append]; omega)
    rw [unhide HNB, List.take_left] at this
    rw [unhide HNB]
    exact this
  have hvr : ∀ i, (Value.slice (some ⟨gr, 0, none⟩) nb N).ownBlock = some i → i < w8.heap.size := fun i hi => by
    have e : gr = i := by simpa [Value.ownBlock] using hi
    have h1 := unhide HR4lt
    have h2 := (unhide HK8).size
    omega
  have HC9 := hide (lreads_any (.slice (some ⟨gr, 0, none⟩) nb N) bs w8 hSt (unhide HB) (unhide HZB) hvr ((unhide HG).kept ((unhide HK4).trans (unhide HK8)) (by simp)))
  clear hvr
  clear HC8 K8 HK7 hSf hSt
  go_wp2_with fail
  refine (unhide HC9).mono ?_
  rintro ee wa ⟨rfl, Ka⟩
  have HKa := hide ((unhide HK8).trans Ka)
  have HCa := hide (intact_any (.slice (some ⟨gr, 0, none⟩) N N) (.slice ab nb cb) bs 165 wa ((unhide HR4).kept (unhide HKa) (by simp)) ((unhide HSB).kept ((unhide HK4).trans (unhide HKa)) (by simp)) (unhide HZB))
  clear HC9 Ka HK8
  go_wp2_with fail
  refine (unhide HCa).mono ?_
  rintro ee wb ⟨rfl, Kb⟩
  have HKb := hide ((unhide HKa).trans Kb)
  have HCb := hide (mknown_any wb)
  clear HCa Kb HKa
  go_wp2_with fail
  refine (unhide HCb).mono ?_
  rintro ee wc ⟨rfl, Kc⟩
  have HKc := hide ((unhide HKb).trans Kc)
  clear HCb Kc HKb
  go_wp2_with fail
  go_ret
  exact ⟨rfl, ((unhide HK4).trans (unhide HKc)).below (Nat.le_refl _) (by simp)⟩

set_option maxRecDepth 100000 in
theorem lifted (os : Os) (started : os.Started) (H : Type) (enc : TypeId × Value → H) :
    ReturnsInHanded {} Tryd.checked os 4 .any (fun w args => (Rows.manifestTellsSpec.pre enc Tryd.prog Tryd.f4 [] false w args ∧ laidMetH Tryd.prog laid1 w) ∧ sizedMet enc Tryd.prog Tryd.f4 (OpenSpec.ofChange Rows.manifestTellsSpec) false w args) (Rows.manifestTellsSpec.post enc Tryd.prog Tryd.f4 false true false false) := by
  refine returnsInHanded_of_change_and (C := Tryd.checked) (X := fun w _ => laidMetH Tryd.prog laid1 w) (fun _ _ _ hh h => h.of_heap hh) own started (by kernel_rfl) Tryd.func4
    (ChangeSpec.witness_shaped (enc := enc) (C := Tryd.checked) (os := os) (X := fun w _ => laidMetH Tryd.prog laid1 w) false (World.doorLaid Tryd.prog 400 os) #[.agg #[.string ⟨#[]⟩, .int .u32 0, .slice none 0 0, .slice none 0 0], .slice none 0 0, .int .i64 0, .int .i64 0, .int .i64 0, .int .i64 0, .int .u8 0] 8 rfl (World.shaped_of_RefB (by kernel_rfl) (by kernel_rfl)) (by kernel_rfl) (by kernel_rfl) (by kernel_rfl) (door_met os _)) ?_
  intro W base args ds gs before hval0 hW hcnd hsz0 hL _
  have hG := gl_of_laid hL
  have hsz : (DataW.weightsEach Tryd.prog (Tryd.f4.params.toList ++ Rows.manifestTellsSpec.plain.varTypes Tryd.prog) (ds ++ gs)).all (· ≤ reachBytes) = true := hsz0
  have hval : ∀ (j : Nat) t v, Tryd.f4.params[j]? = some t → args[j]? = some v → Value.okWide Tryd.prog W .any base t v := hval0
  have hW' := hW
  obtain ⟨p, q, hA0, hV, rfl, hfz, hnd⟩ := hW
  have hA : DataW.TrodAll enc Tryd.prog W 0 (fun _ => true) true Tryd.f4.params.toList args.toList ds p := hA0
  rw [Tryd.params4] at hA hval hsz
  obtain ⟨v0, vs0, d0, ds0, p0, q0, hargs, rfl, rfl, h0, r0⟩ := trodAll_cons hA
  obtain ⟨v1, vs1, d1, ds1, p1, q1, rfl, rfl, rfl, h1, r1⟩ := trodAll_cons r0
  obtain ⟨v2, vs2, d2, ds2, p2, q2, rfl, rfl, rfl, h2, r2⟩ := trodAll_cons r1
  obtain ⟨v3, vs3, d3, ds3, p3, q3, rfl, rfl, rfl, h3, r3⟩ := trodAll_cons r2
  obtain ⟨v4, vs4, d4, ds4, p4, q4, rfl, rfl, rfl, h4, r4⟩ := trodAll_cons r3
  obtain ⟨v5, vs5, d5, ds5, p5, q5, rfl, rfl, rfl, h5, r5⟩ := trodAll_cons r4
  obtain ⟨v6, vs6, d6, ds6, p6, q6, rfl, rfl, rfl, h6, r6⟩ := trodAll_cons r5
  obtain ⟨rfl, rfl, rfl⟩ := trodAll_nil r6
  obtain rfl : args = #[v0, v1, v2, v3, v4, v5, v6] := by cases args; simp_all
  obtain ⟨rfl, rfl⟩ := trodVars_none hV
  have k0 := h0
  have lt0 : ∀ x ∈ p0, x.block < W.heap.size := by obtain ⟨m, hm⟩ := k0; exact DataW.trod_lt m _ _ _ hm
  obtain ⟨l0, s0, z0⟩ := man_open (hval 0 25 v0 rfl rfl) h0
  obtain ⟨a1, len1, cap1, rfl⟩ := okWide_slice Tryd.underlying23 (hval 1 23 v1 rfl rfl)
  have k1 := h1
  have lt1 : ∀ x ∈ p1, x.block < W.heap.size := by obtain ⟨m, hm⟩ := k1; exact DataW.trod_lt m _ _ _ hm
  obtain ⟨l1, s1, b1⟩ : ∃ bs, Sl W (.slice a1 len1 cap1) bs ∧ Bs bs := by
    obtain ⟨fuel, hf⟩ := h1
    exact bytes_of_trod (by simpa [Value.cells] using hf)
  have z1 : l1.length ≤ 140737488351232 := by
    obtain ⟨fuel, hf⟩ := k1
    exact sl_len s1 (reach_bytes (j := 1) (by simpa [Value.cells] using hf) hsz rfl rfl)
  obtain ⟨a2, rfl, rfl, rfl, w2⟩ := open_int Tryd.underlying3 (hval 2 3 v2 rfl rfl) h2
  obtain ⟨a3, rfl, rfl, rfl, w3⟩ := open_int Tryd.underlying3 (hval 3 3 v3 rfl rfl) h3
  obtain ⟨a4, rfl, rfl, rfl, w4⟩ := open_int Tryd.underlying3 (hval 4 3 v4 rfl rfl) h4
  obtain ⟨a5, rfl, rfl, rfl, w5⟩ := open_int Tryd.underlying3 (hval 5 3 v5 rfl rfl) h5
  obtain ⟨a6, rfl, rfl, rfl, w6⟩ := open_int Tryd.underlying5 (hval 6 5 v6 rfl rfl) h6
  clear hA0 hval0
  refine (walk v0 l0 (.slice a1 len1 cap1) l1 a2 a3 a4 a5 a6 W hG s0 z0 s1 b1 z1 (bounds_i64 w2) (bounds_i64 w3) (bounds_i64 w4) (bounds_i64 w5) (bounds_u8 w6)).mono fun e W' ⟨he, bel⟩ => ?_
  subst he
  exact ⟨_, rfl, _, _, _, [], _, [], hW', trodAll_mk1 (shut_bool Tryd.underlying4 _), (trodAll_cons_mk (Below.trod laidOut (by kernel_rfl) (of_decide_eq_true (by kernel_rfl)) k0 bel lt0) (trodAll_cons_mk (Below.trod laidOut (by kernel_rfl) (of_decide_eq_true (by kernel_rfl)) k1 bel lt1) (trodAll_cons_mk (shut_int Tryd.underlying3 w2) (trodAll_cons_mk (shut_int Tryd.underlying3 w3) (trodAll_cons_mk (shut_int Tryd.underlying3 w4) (trodAll_cons_mk (shut_int Tryd.underlying3 w5) (trodAll_cons_mk (shut_int Tryd.underlying5 w6) trodAll_mk0))))))), rfl, bel.frame _, fun h => by cases h⟩

theorem over : Rows.manifestTellsRow.holds Tryd.pinned (OpenSpec.ofChange Rows.manifestTellsSpec) :=
  OpenClaim.holds_of_wide 4 Tryd.f4 rfl rfl rfl rfl rfl rfl rfl ⟨rfl, rfl, rfl, rfl, rfl⟩ rfl rfl rfl rfl rfl (by kernel_rfl) Tryd.func4 (by kernel_rfl)
    (of_decide_eq_true (by kernel_rfl)) (by unfold Func.isWrapper; first | (rw [if_pos (by decide +kernel)]; kernel_rfl) | (rw [if_neg (by decide +kernel)]; exact ⟨rfl, rfl⟩))
    (fun os started H enc _ => lifted os started H enc)
end Go.Proofs.YtioflclfgkcpfaaDoor.manifestTells

namespace Go.Proofs.YtioflclfgkcpfaaDoor
/-- The given statement: the tied card. -/
theorem ManifestTells_holds : Rows.ManifestTellsCardSaid :=
  Claim7.holds_tied_plain_at .later [] [.data] true Rows.manifestTellsCard.stood.harness false
    manifestTells.over (fun _ h => by cases h) (by kernel_rfl) (fun _ h => by cases h) manifestTells_row_tie rfl ⟨rfl, rfl⟩ (by kernel_rfl) rfl
    (fun f fn hf hfn => by
      obtain rfl : f = 4 := Option.some.inj ((show Tryd.prog.funcNamed "broadsheet/broadsheetlaw9.ManifestTells" = some 4 by kernel_rfl).symm.trans hf) |>.symm
      obtain rfl : fn = Tryd.f4 := (Option.some.inj (Tryd.func4.symm.trans hfn)).symm
      exact ⟨by kernel_rfl, fun j t ht => by
        rw [Tryd.params4] at ht
        have hm : t ∈ ([25, 23, 3, 3, 3, 3, 5] : List TypeId) := by simpa using Array.mem_of_getElem? ht
        have hall : (([25, 23, 3, 3, 3, 3, 5] : List TypeId).all fun u => !Tryd.prog.wantsStandIn u) = true := by kernel_rfl
        exact (show Tryd.prog.wantsStandIn t = false by simpa using List.all_eq_true.1 hall t hm)⟩)
    (by kernel_rfl)
#print axioms ManifestTells_holds
end Go.Proofs.YtioflclfgkcpfaaDoor

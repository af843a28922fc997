/-
  Disks, journals and boxes with the blocks that they lie in.
-/
import Derived.Test.YtillhpgdlmeajaaGreatDoorKUFoot
import Derived.Test.YtillhpgdlmeajaaGreatDoorKKLaw
namespace Go.Proofs.YtillhpgdlmeajaaGreatDoor
open Go.RowKit
open Go.Proofs
set_option linter.unusedVariables false

/-- a disk in the blocks F. -/
def Dx (w0 w : World) (p : Nat) (d : Dk) (F : Nat → Prop) : Prop := ∃ v, Nw w0 w p v d ∧ ∀ i ∈ dfp p v, F i
/-- a journal on its disk, both in F. -/
def Jx (w0 w : World) (p : Nat) (d : Dk) (j k : Nat) (F : Nat → Prop) : Prop := ∃ v m, m ≤ k ∧ Jn w0 w p v d j m ∧ F j ∧ ∀ i ∈ dfp p v, F i
/-- a box on its disk, all in F. -/
def Bf (w0 w : World) (p : Nat) (d : Dk) (q n k : Nat) (F : Nat → Prop) : Prop := ∃ v j m, m ≤ k ∧ Jn w0 w p v d j m ∧ Kb w q j n ∧ w0.heap.size ≤ q ∧ F q ∧ F j ∧ ∀ i ∈ dfp p v, F i
section
variable {w0 w w' : World} {p q j n k : Nat} {d d' : Dk} {F : Nat → Prop} {v : Value}
theorem Nw.kept {S : List Nat} (h : Nw w0 w p v d) (t : Kp S w w') (k0 : Kp [] w0 w') (hS : ∀ i ∈ dfp p v, i ∉ S) : Nw w0 w' p v d := ⟨h.dk.kept t hS, h.new, k0, h.arm⟩
theorem Jn.kept {S : List Nat} (h : Jn w0 w p v d j n) (t : Kp S w w') (k0 : Kp [] w0 w') (hS : ∀ i ∈ dfp p v, i ∉ S) (hj : j ∉ S) : Jn w0 w' p v d j n := ⟨h.nw.kept t k0 hS, h.jr.kept t hj, h.new⟩
theorem Dx.kept {S : List Nat} (h : Dx w0 w p d F) (t : Kp S w w') (k0 : Kp [] w0 w') (hS : ∀ i ∈ S, ¬ F i) : Dx w0 w' p d F := by
  obtain ⟨v, h1, h2⟩ := h
  exact ⟨v, h1.kept t k0 (fun i hi hm => hS i hm (h2 i hi)), h2⟩
theorem Jx.kept {S : List Nat} (h : Jx w0 w p d j k F) (t : Kp S w w') (k0 : Kp [] w0 w') (hS : ∀ i ∈ S, ¬ F i) : Jx w0 w' p d j k F := by
  obtain ⟨v, m, h1, h2, h3, h4⟩ := h
  exact ⟨v, m, h1, h2.kept t k0 (fun i hi hm => hS i hm (h4 i hi)) (fun hm => hS _ hm h3), h3, h4⟩
theorem Bf.kept {S : List Nat} (h : Bf w0 w p d q n k F) (t : Kp S w w') (k0 : Kp [] w0 w') (hS : ∀ i ∈ S, ¬ F i) : Bf w0 w' p d q n k F := by
  obtain ⟨v, j, m, h1, h2, h3, h4, h5, h6, h7⟩ := h
  exact ⟨v, j, m, h1, h2.kept t k0 (fun i hi hm => hS i hm (h7 i hi)) (fun hm => hS _ hm h6), h3.kept t (fun hm => hS _ hm h5), h4, h5, h6, h7⟩
theorem Bf.bx (h : Bf w0 w p d q n k F) : Bx w0 w p d q n k := by
  obtain ⟨v, j, m, h1, h2, h3, h4, -⟩ := h
  exact ⟨v, j, m, h1, h2, h3, h4⟩
theorem Bf.dx (h : Bf w0 w p d q n k F) : Dx w0 w p d F := by
  obtain ⟨v, j, m, h1, h2, h3, h4, h5, h6, h7⟩ := h
  exact ⟨v, h2.nw, h7⟩
theorem Jx.dx (h : Jx w0 w p d j k F) : Dx w0 w p d F := by
  obtain ⟨v, m, h1, h2, h3, h4⟩ := h
  exact ⟨v, h2.nw, h4⟩
theorem Dx.upd (h : Dx w0 w p d F) {F' : Nat → Prop} (hF : ∀ i, F i → F' i) : Dx w0 w p d F' := by
  obtain ⟨v, h1, h2⟩ := h
  exact ⟨v, h1, fun i hi => hF i (h2 i hi)⟩
theorem Jx.upd (h : Jx w0 w p d j k F) {F' : Nat → Prop} (hF : ∀ i, F i → F' i) : Jx w0 w p d j k F' := by
  obtain ⟨v, m, h1, h2, h3, h4⟩ := h
  exact ⟨v, m, h1, h2, hF _ h3, fun i hi => hF i (h4 i hi)⟩
theorem Bf.upd (h : Bf w0 w p d q n k F) {F' : Nat → Prop} (hF : ∀ i, F i → F' i) : Bf w0 w p d q n k F' := by
  obtain ⟨v, j, m, h1, h2, h3, h4, h5, h6, h7⟩ := h
  exact ⟨v, j, m, h1, h2, h3, h4, hF _ h5, hF _ h6, fun i hi => hF i (h7 i hi)⟩
/-- where a disk lies behind a step. -/
def grF (F : Nat → Prop) (v' : Value) : Nat → Prop := fun i => F i ∨ v'.ownBlock = some i
theorem DSt.stp {v' : Value} (t : DSt p w v w' v') (hF : ∀ i ∈ dfp p v, F i) (hlt : ∀ i, v'.ownBlock = some i → i < w'.heap.size) : Stp F w w' (grF F v') := by
  refine ⟨⟨dfp p v, hF, t.1⟩, fun i hi => ?_⟩
  rcases hi with hi | hi
  · exact .inl hi
  · rcases t.2 i hi with h1 | h1
    · exact .inl (hF i (mem_dfp.2 (.inr h1)))
    · exact .inr ⟨h1, hlt i hi⟩
theorem JSt.stp {v' : Value} (t : JSt p j w v w' v') (hF : ∀ i ∈ dfp p v, F i) (hj : F j) (hlt : ∀ i, v'.ownBlock = some i → i < w'.heap.size) : Stp F w w' (grF F v') := by
  refine ⟨⟨j :: dfp p v, fun i hi => ?_, t.1⟩, fun i hi => ?_⟩
  · rcases List.mem_cons.1 hi with rfl | hi
    · exact hj
    · exact hF i hi
  · rcases hi with hi | hi
    · exact .inl hi
    · rcases t.2 i hi with h1 | h1
      · exact .inl (hF i (mem_dfp.2 (.inr h1)))
      · exact .inr ⟨h1, hlt i hi⟩
theorem grF_fp {v' : Value} (hp : F p) : ∀ i ∈ dfp p v', grF F v' i := fun i hi => by
  rcases mem_dfp.1 hi with rfl | hi
  · exact .inl hp
  · exact .inr hi
theorem Nw.rlt (h : Nw w0 w p v d) : ∀ i, v.ownBlock = some i → i < w.heap.size := fun i hi => h.dk.row.lt hi
/-- a disk takes a step. -/
theorem Dx.stepD {v v' : Value} (hF : ∀ i ∈ dfp p v, F i) (g : Nw w0 w' p v' d') (t : DSt p w v w' v') : ∃ F', Dx w0 w' p d' F' ∧ Stp F w w' F' ∧ ∀ i, F i → F' i :=
  ⟨grF F v', ⟨v', g, grF_fp (hF p (mem_dfp.2 (.inl rfl)))⟩, t.stp hF g.rlt, fun i h => .inl h⟩
theorem Jx.stepD {v v' : Value} (h : ∃ m, m ≤ k ∧ Jn w0 w p v d j m ∧ F j ∧ ∀ i ∈ dfp p v, F i) (g : Nw w0 w' p v' d') (t : DSt p w v w' v') : ∃ F', Jx w0 w' p d' j k F' ∧ Stp F w w' F' := by
  obtain ⟨m, h1, h2, h3, h4⟩ := h
  exact ⟨grF F v', ⟨v', m, h1, h2.disk g t, .inl h3, grF_fp (h4 p (mem_dfp.2 (.inl rfl)))⟩, t.stp h4 g.rlt⟩
theorem Bf.stepD {v v' : Value} (h : ∃ j m, m ≤ k ∧ Jn w0 w p v d j m ∧ Kb w q j n ∧ w0.heap.size ≤ q ∧ F q ∧ F j ∧ ∀ i ∈ dfp p v, F i) (g : Nw w0 w' p v' d') (t : DSt p w v w' v') : ∃ F', Bf w0 w' p d' q n k F' ∧ Stp F w w' F' := by
  obtain ⟨j, m, h1, h2, h3, h4, h5, h6, h7⟩ := h
  exact ⟨grF F v', ⟨v', j, m, h1, h2.disk g t, h3.kept t.1 (h3.off h2.nw.dk), h4, .inl h5, .inl h6, grF_fp (h7 p (mem_dfp.2 (.inl rfl)))⟩, t.stp h7 g.rlt⟩
/-- the journal's Add. -/
theorem jx_add {vb : Value} {b : List Int} (h : Jx w0 w p d j k F) (hS : Sl w vb b) (hB : Bs b) (hl : b.length ≤ 65535) (hk : k ≤ 1000) (er : Bool) (he : d.add (recP b) = (er, d')) (en : Int) (hen : en = if er then 0 else 13) :
    Calls Tryz.prog 44 #[.pointer (some ⟨j, 0, none⟩), vb] w fun e w' => e = .returned (.int .i64 en) ∧ ∃ F', Jx w0 w' p d' j (k + 1) F' ∧ Stp F w w' F' := by
  obtain ⟨v, m, h1, h2, h3, h4⟩ := h
  refine (jadd_any h2 hS hB hl (by omega) er he en hen _ rfl).mono ?_
  rintro e w' ⟨rfl, v', J, T⟩
  refine ⟨rfl, grF F v', ⟨v', _, ?_, J, .inl h3, grF_fp (h4 p (mem_dfp.2 (.inl rfl)))⟩, T.stp h4 h3 J.nw.rlt⟩
  split <;> omega
set_option maxRecDepth 100000 in
set_option maxHeartbeats 2000000 in
theorem bf_take (h : Bf w0 w p d q n k F) (hn : n < 16) (hk : k ≤ 1000) (er : Bool) (he : d.add (recP [(n : Int)]) = (er, d')) (x en : Int) (hx : x = if er then (n : Int) else 0) (hen : en = if er then 0 else 13) (n' : Nat) (hn' : n' = if er then n + 1 else n) :
    Calls Tryz.prog 115 #[.pointer (some ⟨q, 0, none⟩)] w fun e w' => e = .returned (.tuple #[.int .i64 x, .int .i64 en]) ∧ ∃ F', Bf w0 w' p d' q n' (k + 1) F' ∧ Stp F w w' F' := by
  obtain ⟨v, j, m, hm, hJ, hB, hq, hFq, hFj, hFv⟩ := h
  have hc0 := hB.c0
  have hc1 := hB.c1
  have hne : ¬ (n : Int) = 16 := by omega
  have hne' : ((n : Int) == 16) = false := by simpa using hne
  have h8 : IntKind.u8.wrap (n : Int) = n := by simp [IntKind.wrap, IntKind.signed, IntKind.bits]; omega
  have ka : Kp [] w (w.alloc (.cells #[.int .u8 (n : Int)] 5 (0, 0))) := (Kp.refl [] w).alloc _
  obtain ⟨m', hm'⟩ : ∃ m', m' = if (d.app (recP [(n : Int)])).1 then m + 1 else m := ⟨_, rfl⟩
  have HAd := hide (jadd_any (hJ.on ka) (lit_sl w [(n : Int)] 1 (0, 0) rfl (by omega)) (fun b hb => by simp at hb; omega) (by simp) (by omega) er he en hen m' hm')
  have hmk : m' ≤ k + 1 := by rw [hm']; split <;> omega
  have HJ := hide (hJ.on ka)
  have HB := hide (hB.kept ka (by simp))
  have HQ := hide hq
  have HMk := hide hmk
  have HX := hide hx
  have HN := hide hn'
  have HE := hide hen
  have HFq := hide hFq
  have HFj := hide hFj
  have HFv := hide hFv
  have HKa := hide ka
  clear hJ hB hq hmk hx hn' hen hm' hm he ka hFq hFj hFv
  go_enter Tryz.func115, Tryz.ntmps115
  go_wp2_with fail
  refine HAd.out.mono ?_
  rintro ee w2 ⟨rfl, v2, J2, T2⟩
  have B2 := HB.out.kept T2.1 (fun hm => by
    rcases List.mem_cons.1 hm with e | hm
    · exact HB.out.offJ HJ.out.jr e
    · exact HB.out.off HJ.out.nw.dk hm)
  have HJ2 := hide J2
  have HB2 := hide B2
  have HT2 : Hid (Stp F w w2 (grF F v2)) := (Stp.mid HKa.out).trans (T2.stp HFv.out HFj.out J2.nw.rlt)
  cases er
  · obtain rfl : en = 13 := by rw [HE.out]; rfl
    have hx0 : x = 0 := by rw [HX.out]; rfl
    have hn0 : n' = n := by rw [HN.out]; rfl
    subst hx0 hn0
    clear J2 T2 B2 HAd hc0 hc1
    go_wp2_with fail
    go_ret2
    exact ⟨rfl, grF F v2, ⟨v2, j, m', HMk.out, HJ2.out, HB2.out, HQ.out, .inl HFq.out, .inl HFj.out, grF_fp (HFv.out p (mem_dfp.2 (.inl rfl)))⟩, HT2.out⟩
  · obtain rfl : en = 0 := by rw [HE.out]; rfl
    have hx0 : x = n := by rw [HX.out]; rfl
    have hn0 : n' = n + 1 := by rw [HN.out]; rfl
    subst hx0 hn0
    have hc1 := B2.c1
    have hf1 := B2.f 1
    clear J2 T2 B2 HAd hc0
    have hw : IntKind.i64.wrap ((n : Int) + 1) = (n : Int) + 1 := by simp [IntKind.wrap, IntKind.signed, IntKind.bits]; omega
    go_wp2_with fail
    go_ret2
    have ks : Kp [q] w2 (w2.setCell ⟨q, 1, none⟩ (.int .i64 ((n : Int) + 1))) := kp_set w2 q 1 _
    refine ⟨rfl, grF F v2, ⟨v2, j, m', HMk.out, ⟨⟨HJ2.out.nw.dk.kept ks (fun i hi hm => ?_), HJ2.out.nw.new, HJ2.out.nw.kp.then ks (fun i hi => .inr ?_), HJ2.out.nw.arm⟩, HJ2.out.jr.kept ks ?_, HJ2.out.new⟩, ?_, HQ.out, .inl HFq.out, .inl HFj.out, grF_fp (HFv.out p (mem_dfp.2 (.inl rfl)))⟩, HT2.out.trans ⟨⟨[q], ?_, ks⟩, fun i hi => .inl hi⟩⟩
    · simp at hm; subst hm; exact HB2.out.off HJ2.out.nw.dk hi
    · simp at hi; subst hi; exact HQ.out
    · simp only [List.mem_cons, List.not_mem_nil, or_false]; exact fun e => HB2.out.offJ HJ2.out.jr e.symm
    · have := HB2.out.s1 ((n : Int) + 1)
      simpa using this
    · intro i hi; simp at hi; subst hi; exact .inl HFq.out
/-- keys.Open of the first keys' records. -/
theorem bf_open {at_ : Nat} (h : Dx w0 w p d F) (hd : d.down = false) (ha : d.arm ≤ 0) {b : List Int} (hb : d.bs = b) (hn : n ≤ 16) (ho : opnP b = (keyL n, at_, true)) (hd' : d.opn = d') :
    Calls Tryz.prog 41 #[.pointer (some ⟨p, 0, none⟩)] w fun e w' => ∃ q, e = .returned (.tuple #[.pointer (some ⟨q, 0, none⟩), .int .i64 0]) ∧ ∃ F', Bf w0 w' p d' q n n F' ∧ Stp F w w' F' := by
  obtain ⟨v, hN, hF⟩ := h
  have HO := hide (open_at hN hd ha b hb)
  have HF := hide hF
  have HD := hide hd'
  have HOp := hide ho
  have HN := hide hn
  clear hN hd ha hb hF hd' ho hn
  go_enter Tryz.func41, Tryz.ntmps41
  go_wp2_with fail
  refine HO.out.mono ?_
  rw [HOp.out, HD.out]
  rintro ee w1 (⟨ht, j, v1, al, m, cl, l, rfl, J1, hj1, T1, P1, hl1, hm1⟩ | ⟨hf, -⟩)
  · have HJ1 := hide J1
    rw [keyL_len] at hm1
    subst hm1
    have HL1 := hide hl1
    have hml : m = l.length := by have := congrArg List.length hl1; simpa [keyL_len] using this.symm
    have HI := hide (inOrder_any _ l w1 (P1.parts.lists (by have := HN.out; omega)) _ hl1 (by have := HN.out; omega))
    have HT1 : Hid (Stp F w w1 (grF F v1)) := T1.stp HF.out J1.nw.rlt
    have HJL := hide hj1
    have hio : inOrd (keyL m) = true := inOrd_key HN.out
    rw [hio] at HI
    clear J1 ht hl1 P1 HO hml T1 hj1 hio
    go_wp2_with fail
    refine HI.out.mono ?_
    rintro ee w2 ⟨rfl, K2⟩
    have HK2 := hide K2
    have HJ2 := hide (HJ1.out.on K2)
    clear HI K2
    go_wp2_with fail
    go_ret2
    have ka : Kp [] w2 (w2.alloc (.cells #[.pointer (some ⟨j, 0, none⟩), .int .i64 m] 144)) := (Kp.refl [] w2).alloc _
    have hsz := HT1.out.size
    have hs2 := HK2.out.size
    have hjl := HJL.out
    have hjl2 := HJ2.out.jr.lt
    refine ⟨w2.heap.size, rfl, fun i => grF F v1 i ∨ i = j ∨ i = w2.heap.size, ⟨v1, j, m, by omega, ?_, heap_alloc_new w2 _, HJ2.out.nw.kp.size, .inr (.inr rfl), .inr (.inl rfl), fun i hi => .inl (grF_fp (HF.out p (mem_dfp.2 (.inl rfl))) i hi)⟩, ?_⟩
    · have := HJ2.out.on ka
      rwa [keyL_len] at this
    · obtain ⟨⟨S, hS, kS⟩, h2⟩ := HT1.out.trans (Stp.mid (HK2.out.trans ka))
      refine ⟨⟨S, hS, kS⟩, fun i hi => ?_⟩
      rcases hi with hi | rfl | rfl
      · exact h2 i hi
      · exact .inr ⟨hjl, by simp; omega⟩
      · exact .inr ⟨by omega, by simp⟩
  · cases hf
end
end Go.Proofs.YtillhpgdlmeajaaGreatDoor

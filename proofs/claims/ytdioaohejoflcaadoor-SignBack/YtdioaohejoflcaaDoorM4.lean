/-
  The contracts of package sign's Sign and Verify.
-/
import Derived.Test.YtdioaohejoflcaaDoorM3
import Derived.Laws.ResultCell
import Derived.Laws.Rows
import Derived.Test.YtdioaohejoflcaaDoorM2
namespace Go.Proofs.YtdioaohejoflcaaDoor
open Go.RowKit
open Go.Proofs

theorem Tryd.sigSize : (Tryd.prog.info? 33).map (·.size) = some 3 := by kernel_rfl
theorem load_sig (w : World) (g : Nat) (x y z : Value) (fr : Nat × Nat) (hg : w.heap[g]? = some (.cells #[x, y, z] 33 fr)) : (loadVar 33 ⟨g, 0, none⟩).run Tryd.prog w = .ok (.agg #[x, y, z]) w :=
  run_loadVar_row w g 33 33 #[x, y, z] fr _ hg Tryd.underlying33 rfl Tryd.sigSize
theorem results_sig {fn : Func} {p u : Tmp} (h : fn.results = #[.cell p 33, .tmp u]) (tmps : Array Value) (w : World) (g : Nat) (x y z : Value) (fr : Nat × Nat)
    (hp : tmps.getD p undef = .pointer (some ⟨g, 0, none⟩)) (hg : w.heap[g]? = some (.cells #[x, y, z] 33 fr)) : (results fn tmps).run Tryd.prog w = .ok (.tuple #[.agg #[x, y, z], tmps.getD u undef]) w := by
  rw [results_cell_tmp h, hp]
  simp [asAddr, Result.andThen, load_sig w g x y z fr hg]
theorem results_sig1 {fn : Func} {p : Tmp} (h : fn.results = #[.cell p 33]) (tmps : Array Value) (w : World) (g : Nat) (x y z : Value) (fr : Nat × Nat)
    (hp : tmps.getD p undef = .pointer (some ⟨g, 0, none⟩)) (hg : w.heap[g]? = some (.cells #[x, y, z] 33 fr)) : (results fn tmps).run Tryd.prog w = .ok (.agg #[x, y, z]) w :=
  results_cell_row h tmps w g 33 #[x, y, z] fr _ hp hg Tryd.underlying33 rfl Tryd.sigSize
/-- a signature that is stored whole. -/
theorem wpList_store_sig {w : World} {ops : Array Oper} {rest : List Oper} {o : Oper} {a : Act} {Q : Exit → Act → World → Prop} (hgd : o.guard = none) (p u : Operand) (ho : o.op = .store 33 p u) (g : Nat) (hp : a.eval p = .pointer (some ⟨g, 0, none⟩)) (x0 y0 z0 x y z : Value)
    (hg : w.heap[g]? = some (.cells #[x0, y0, z0] 33 (0, 0))) (hu : a.eval u = .agg #[x, y, z]) (h1 : x.oneCell' = true ∧ y.oneCell' = true ∧ z.oneCell' = true)
    (h : ∀ w', w'.heap[g]? = some (.cells #[x, y, z] 33 (0, 0)) → Kp [g] w w' → wpList Tryd.prog ops Q rest (a.put o.dst undef) w') : wpList Tryd.prog ops Q (o :: rest) a w := by
  refine wpList_store_mid hgd 33 p u ho g 0 #[x, y, z] hp hu ?_ (by simpa using Tryd.sigSize) (all_oneCell_toArray (by simp [h1])) ?_
  · intro j hj
    simp only [List.size_toArray, List.length_cons, List.length_nil] at hj
    rw [Nat.zero_add, cell_of_row w g j _ _ _ hg]
    refine ⟨?_, frozen_of_row w g j _ _ hg⟩
    rcases (by omega : j = 0 ∨ j = 1 ∨ j = 2) with rfl | rfl | rfl <;> rfl
  · refine h _ ?_ (kp_setCells w g _ 0 w (Kp.refl _ _))
    simp only [World.setCells]
    have e1 := heap_setCell_same w g 0 _ _ x hg
    have e2 := heap_setCell_same (w.setCell ⟨g, 0, none⟩ x) g 1 _ _ y e1
    have e3 := heap_setCell_same ((w.setCell ⟨g, 0, none⟩ x).setCell ⟨g, 1, none⟩ y) g 2 _ _ z e2
    simpa using e3

set_option maxRecDepth 100000 in
set_option maxHeartbeats 2000000 in
theorem ssign_any (vb : Value) (bs : List Int) (i : Nat) (vm : Value) (ms : List Int) (d : Int) (hd : d = digP ms) (w : World) (hS : Sl w vb bs) (hB : Bs bs) (hl : bs.length = 32) (hi : i < 16) (hM : Sl w vm ms) (hMB : Bs ms) (hml : ms.length ≤ 1000) (hG : Gl w) :
    Calls Tryd.prog 13 #[vb, .int .i64 i, vm] w fun e w' => ∃ v, e = .returned (.tuple #[v, .int .i64 0]) ∧ SigV w' v i (sgnP bs i d) (pthP bs i 4) ∧ Kp [] w w' := by
  have HS := hide hS
  have HG := hide hG
  have HB := hide hB
  have HM := hide hM
  have HMB := hide hMB
  have HD := hide hd
  obtain ⟨ob, hob⟩ : ∃ o : Obj, o = (.cells #[.int .i64 0, .slice none 0 0, .slice none 0 0] 33) := ⟨_, rfl⟩
  have K1 : Kp [] w (w.alloc ob) := (Kp.refl [] w).alloc ob
  have HI := hide (isSeed_any vb bs (w.alloc ob) (hS.kept K1 (by simp)) hl)
  have HK := hide (isKey_any i true (by simp; omega) (w.alloc ob))
  have HC := hide (sign_any vb bs i vm ms d hd (w.alloc ob) (hS.kept K1 (by simp)) hB (by omega) (hM.kept K1 (by simp)) hMB hml (hG.kept K1 (by simp)))
  rw [hob] at K1 HI HK HC
  have HK1 := hide K1
  obtain ⟨ab, cb, hvb, _⟩ := hS
  obtain ⟨nb, hnb⟩ : ∃ n, n = bs.length := ⟨_, rfl⟩
  rw [← hnb] at hvb
  subst hvb
  obtain ⟨am, cm, hvm, _⟩ := hM
  obtain ⟨nm, hnm⟩ : ∃ n, n = ms.length := ⟨_, rfl⟩
  rw [← hnm] at hvm
  subst hvm
  clear hG hB hnb hnm hMB hd hob K1
  go_enter Tryd.func13, Tryd.ntmps13
  go_wp2_with fail
  refine (unhide HI).mono ?_
  rintro ee w1 ⟨rfl, hw⟩
  subst w1
  go_wp2_with fail
  refine (unhide HK).mono ?_
  rintro ee w1 ⟨rfl, hw⟩
  subst w1
  go_wp2_with fail
  refine (unhide HC).mono ?_
  rintro ee w2 ⟨a2, m2, c2, rfl, A2⟩
  have HA2 := hide (A2.after (unhide HK1))
  have HL2 : Hid (∃ l, Lists w2 (.slice a2 m2 c2) l ∧ l.map (·.2) = sgnP bs i d ∧ (∀ q, (Value.slice a2 m2 c2).ownBlock = some q → q ≠ w.heap.size) ∧ ∀ x ∈ l, ∀ q, x.1.ownBlock = some q → q ≠ w.heap.size) := by
    obtain ⟨l, h1, h2, _⟩ := A2
    have hz : ∀ o : Obj, (w.alloc o).heap.size = w.heap.size + 1 := fun o => by simp
    refine ⟨l, h1.lists (by rw [← List.length_map (f := (·.2)), h2, sgnP, ptsP_len]; omega), h2, fun q hq => ?_, fun x hx q hq => ?_⟩
    · have := h1.1.own q hq; rw [hz] at this; omega
    · have := (h1.2 x hx).1.own q hq; rw [hz] at this; omega
  have HG2 : Hid (w2.heap[w.heap.size]? = some (.cells #[.int .i64 0, .slice none 0 0, .slice none 0 0] 33)) := A2.kp.heap (heap_alloc_new w _) (by simp)
  have HP := hide (pathOf_any (.slice ab nb cb) bs i w2 ((unhide HS).kept (unhide HA2).kp (by simp)) (unhide HB) (by omega) hi ((unhide HG).kept (unhide HA2).kp (by simp)))
  clear HI HK HC A2 HK1
  go_wp2_with fail
  refine (unhide HP).mono ?_
  rintro ee w3 ⟨a3, m3, c3, rfl, A3⟩
  have HA3 := hide A3
  have HG3 : w3.heap[w.heap.size]? = some (.cells #[.int .i64 0, .slice none 0 0, .slice none 0 0] 33) := A3.kp.heap (unhide HG2) (by simp)
  have HG2' := unhide HG2
  clear HP A3 HG2
  go_wp2_with (refine wpList_store_sig rfl (.tmp 6) (.tmp 24) rfl w.heap.size rfl _ _ _ _ _ _ HG3 rfl ⟨rfl, rfl, rfl⟩ ?_; intro w4 G4 K4)
  have HK4 : Hid (Kp [] w w4) := (((unhide HA2).kp).trans (unhide HA3).kp).then K4 (by simp)
  have hlt : w.heap.size < w3.heap.size := (Array.getElem?_eq_some_iff.1 HG3).1
  have hsz2 : w.heap.size < w2.heap.size := (Array.getElem?_eq_some_iff.1 HG2').1
  have HV : Hid (SigV w4 (.agg #[.int .i64 i, .slice a2 m2 c2, .slice a3 m3 c3]) i (sgnP bs i d) (pthP bs i 4)) := by
    obtain ⟨lp, h1, h2, h3, h4⟩ := unhide HL2
    obtain ⟨lq, g1, g2, g3, g4⟩ := (unhide HA3).lists (by rw [pthP_len]; omega)
    refine ⟨_, _, lp, lq, rfl, (h1.kept (unhide HA3).kp).off K4 (fun q hq => by simpa using h3 q hq) (fun y hy q hq => by simpa using h4 y hy q hq), h2, g1.off K4 (fun q hq => ?_) (fun y hy q hq => ?_), g2⟩
    · have := g3 q hq; simp; omega
    · have := g4 y hy q hq; simp; omega
  refine bodyPost_ret (results_sig rfl _ _ w.heap.size _ _ _ (0, 0) rfl G4) rfl ?_
  exact ⟨_, rfl, unhide HV, unhide HK4⟩

set_option maxRecDepth 100000 in
set_option maxHeartbeats 2000000 in
theorem ssign_used (vb : Value) (bs : List Int) (i : Int) (vm : Value) (w : World) (hS : Sl w vb bs) (hl : bs.length = 32) (hi : ¬ (0 ≤ i ∧ i < 16)) :
    Calls Tryd.prog 13 #[vb, .int .i64 i, vm] w fun e w' => e = .returned (.tuple #[.agg #[.int .i64 0, .slice none 0 0, .slice none 0 0], .int .i64 23]) ∧ Kp [] w w' := by
  obtain ⟨ob, hob⟩ : ∃ o : Obj, o = (.cells #[.int .i64 0, .slice none 0 0, .slice none 0 0] 33) := ⟨_, rfl⟩
  have K1 : Kp [] w (w.alloc ob) := (Kp.refl [] w).alloc ob
  have HI := hide (isSeed_any vb bs (w.alloc ob) (hS.kept K1 (by simp)) hl)
  have HK := hide (isKey_any i false (by simp only [hi, decide_false]) (w.alloc ob))
  rw [hob] at K1 HI HK
  have HK1 := hide K1
  have G1 := heap_alloc_new w (.cells #[.int .i64 0, .slice none 0 0, .slice none 0 0] 33)
  clear hob K1 hS hi
  go_enter Tryd.func13, Tryd.ntmps13
  go_wp2_with fail
  refine (unhide HI).mono ?_
  rintro ee w1 ⟨rfl, hw⟩
  subst w1
  go_wp2_with fail
  refine (unhide HK).mono ?_
  rintro ee w1 ⟨rfl, hw⟩
  subst w1
  go_wp2_with (refine wpList_store_sig rfl (.tmp 6) (.tmp 15) rfl w.heap.size rfl _ _ _ _ _ _ G1 rfl ⟨rfl, rfl, rfl⟩ ?_; intro w4 G4 K4)
  refine bodyPost_ret (results_sig rfl _ _ w.heap.size _ _ _ (0, 0) rfl G4) rfl ?_
  exact ⟨rfl, (unhide HK1).then K4 (by simp)⟩

set_option maxRecDepth 100000 in
set_option maxHeartbeats 2000000 in
theorem ssign_arg (vb : Value) (bs : List Int) (i : Int) (vm : Value) (w : World) (hS : Sl w vb bs) (hl : bs.length ≠ 32) :
    Calls Tryd.prog 13 #[vb, .int .i64 i, vm] w fun e w' => e = .returned (.tuple #[.agg #[.int .i64 0, .slice none 0 0, .slice none 0 0], .int .i64 1]) ∧ Kp [] w w' := by
  obtain ⟨ob, hob⟩ : ∃ o : Obj, o = (.cells #[.int .i64 0, .slice none 0 0, .slice none 0 0] 33) := ⟨_, rfl⟩
  have K1 : Kp [] w (w.alloc ob) := (Kp.refl [] w).alloc ob
  have HI := hide (isSeed_no vb bs (w.alloc ob) (hS.kept K1 (by simp)) hl)
  rw [hob] at K1 HI
  have HK1 := hide K1
  have G1 := heap_alloc_new w (.cells #[.int .i64 0, .slice none 0 0, .slice none 0 0] 33)
  clear hob K1 hS hl
  go_enter Tryd.func13, Tryd.ntmps13
  go_wp2_with fail
  refine (unhide HI).mono ?_
  rintro ee w1 ⟨rfl, hw⟩
  subst w1
  go_wp2_with (refine wpList_store_sig rfl (.tmp 6) (.tmp 11) rfl w.heap.size rfl _ _ _ _ _ _ G1 rfl ⟨rfl, rfl, rfl⟩ ?_; intro w4 G4 K4)
  refine bodyPost_ret (results_sig rfl _ _ w.heap.size _ _ _ (0, 0) rfl G4) rfl ?_
  exact ⟨rfl, (unhide HK1).then K4 (by simp)⟩
theorem spublic_no (vb : Value) (bs : List Int) (w : World) (hS : Sl w vb bs) (hl : bs.length ≠ 32) :
    Calls Tryd.prog 11 #[vb] w fun e w' => e = .returned (.slice none 0 0) ∧ w' = w := by
  have HI := hide (isSeed_no vb bs w hS hl)
  clear hS hl
  go_enter Tryd.func11, Tryd.ntmps11
  go_wp2_with fail
  refine (unhide HI).mono ?_
  rintro ee w1 ⟨rfl, hw⟩
  subst w1
  go_wp2_with fail
  go_ret
  exact ⟨rfl, rfl⟩

set_option maxRecDepth 100000 in
set_option maxHeartbeats 2000000 in
theorem sverify_any (vpub : Value) (pub : List Int) (vm : Value) (ms : List Int) (v : Value) (i : Int) (ps qs : List (List Int)) (b : Bool) (hb : b = verP pub ms i ps qs) (w : World) (hP : Sl w vpub pub) (hPB : Bs pub) (hM : Sl w vm ms) (hMB : Bs ms) (hml : ms.length ≤ 1000) (hV : SigV w v i ps qs) (hG : Gl w) :
    Calls Tryd.prog 16 #[vpub, vm, v] w fun e w' => e = .returned (.bool b) ∧ Kp [] w w' := by
  obtain ⟨c, hc⟩ : ∃ c, c = rgtP i ps qs := ⟨_, rfl⟩
  obtain ⟨ap, np, cp, aq, nq, cq, lp, lq, rfl, hLP, hp, hLQ, hq, hnp, hnq⟩ := hV.shape
  clear hnp hnq
  obtain ⟨ob, hob⟩ : ∃ o : Obj, o = (.cells #[.int .i64 i, .slice ap np cp, .slice aq nq cq] 33) := ⟨_, rfl⟩
  have K1 : Kp [] w (w.alloc ob) := (Kp.refl [] w).alloc ob
  have HR := hide (sright_any _ i ps qs c hc (w.alloc ob) (hV.kept K1))
  have HLP := hide hLP
  have HLQ := hide hLQ
  have Hp := hide hp
  have Hq := hide hq
  have HPu := hide hP
  have HPB := hide hPB
  have HM := hide hM
  have HMB := hide hMB
  have HG := hide hG
  obtain ⟨au, cu, hvu, _⟩ := hP
  obtain ⟨nu, hnu⟩ : ∃ n, n = pub.length := ⟨_, rfl⟩
  rw [← hnu] at hvu
  subst hvu
  obtain ⟨am, cm, hvm, _⟩ := hM
  obtain ⟨nm, hnm⟩ : ∃ n, n = ms.length := ⟨_, rfl⟩
  rw [← hnm] at hvm
  subst hvm
  have hl1 := load_sig (w.alloc ob) w.heap.size (.int .i64 i) (.slice ap np cp) (.slice aq nq cq) (0, 0) (by rw [hob]; exact heap_alloc_new w _)
  have G1 : Hid ((w.alloc ob).heap[w.heap.size]? = some (.cells #[.int .i64 i, .slice ap np cp, .slice aq nq cq] 33 (0, 0))) := by rw [hob]; exact heap_alloc_new w _
  rw [hob] at K1 HR hl1 G1
  have HK1 := hide K1
  have HB := hide hb
  have HCC := hide hc
  clear hob K1 hLP hLQ hp hq hPB hMB hV hG hnu hnm hb hc
  cases c
  · have hbf : b = false := by rw [unhide HB, verP, ← unhide HCC]; rfl
    subst hbf
    go_enter Tryd.func16, Tryd.ntmps16
    go_wp2_with fail
    refine (unhide HR).mono ?_
    rintro ee w2 ⟨rfl, K2⟩
    have HK2 := hide ((unhide HK1).trans K2)
    clear HR K2 HK1
    go_wp2_with fail
    go_ret
    exact ⟨rfl, unhide HK2⟩
  · have hrg := (rgtP_iff i ps qs).1 (unhide HCC).symm
    obtain ⟨⟨hi0, hi1⟩, ⟨hpl, hp32⟩, hql, hq32⟩ := hrg
    obtain ⟨k, rfl⟩ := Int.eq_ofNat_of_zero_le hi0
    obtain ⟨d, hd⟩ : ∃ d, d = digP ms := ⟨_, rfl⟩
    obtain ⟨r, hr⟩ : ∃ r, r = rootP d ps := ⟨_, rfl⟩
    obtain ⟨t, ht⟩ : ∃ t, t = ledP r k qs := ⟨_, rfl⟩
    have hare : true = areP ps := by
      unfold areP
      symm
      simp only [Bool.and_eq_true, beq_iff_eq, List.all_eq_true]
      exact ⟨hpl, hp32⟩
    obtain ⟨S, hS⟩ : ∃ S, S = strOfNums t := ⟨_, rfl⟩
    obtain ⟨T, hT⟩ : ∃ T, T = strOfNums pub := ⟨_, rfl⟩
    have hrB : Bs r := by rw [hr]; exact sha_bs _
    have hrl : r.length ≤ 1000 := by rw [hr, rootP, sha_len]; omega
    have hbb : b = (S.toList == T.toList) := by
      have htB : Bs t := by rw [ht]; exact (ledP_ok r k qs hrl hrB).2
      rw [unhide HB, verP, ← unhide HCC, hS, hT, str_beq t pub htB (unhide HPB), ht, hr, hd]
      rfl
    have HRo := hide (fun w' (k' : Kp [] w w') => root_any _ ms (.slice ap np cp) lp d true r hd (by rw [unhide Hp]; exact hare) (by rw [unhide Hp]; exact hr) w' ((unhide HM).kept k' (by simp)) (unhide HMB) hml ((unhide HLP).kept k') ((unhide HG).kept k' (by simp)))
    have HLe := hide (fun (vx : Value) w' (k' : Kp [] w w') (hx : Sl w' vx r) => ledUp_any vx r k (.slice aq nq cq) lq qs t ht (unhide Hq) w' hx hrB hrl (by omega) ((unhide HLQ).kept k') (by omega) (fun y hy => by rw [hq32 y hy]; omega) ((unhide HG).kept k' (by simp)))
    have HSa := hide (fun (vx : Value) w' (k' : Kp [] w w') (hx : Sl w' vx t) => samehash_any vx _ t pub S T hS hT w' hx ((unhide HPu).kept k' (by simp)))
    clear hrB hrl hS hT hd hr ht hare HB HCC hp32 hq32 hpl hql hi0 hi1
    subst hbb
    go_enter Tryd.func16, Tryd.ntmps16
    go_wp2_with fail
    refine (unhide HR).mono ?_
    rintro ee w2 ⟨rfl, K2⟩
    have HK2 := hide ((unhide HK1).trans K2)
    have G2 := K2.heap (unhide G1) (by simp)
    have c1 := cell_of_row w2 w.heap.size 1 _ _ _ G2
    have c1' : w2.cell? ⟨w.heap.size, 1, none⟩ = some (.slice ap np cp) := by rw [c1]; rfl
    have HG2 := hide G2
    clear HR K2 HK1 G1 G2 c1
    go_wp2_with fail
    refine (unhide HRo w2 (unhide HK2)).mono ?_
    rintro ee w3 ⟨vr, rfl, hRoot, K3⟩
    obtain ⟨a3, m3, c3, rfl, R3⟩ := hRoot
    have HK3 := hide ((unhide HK2).trans K3)
    have HR3 := hide R3.sl
    have G3 := K3.heap (unhide HG2) (by simp)
    have e0 : w3.cell? ⟨w.heap.size, 0, none⟩ = some (.int .i64 k) := by rw [cell_of_row w3 w.heap.size 0 _ _ _ G3]; rfl
    have e2 : w3.cell? ⟨w.heap.size, 2, none⟩ = some (.slice aq nq cq) := by rw [cell_of_row w3 w.heap.size 2 _ _ _ G3]; rfl
    clear R3 K3 HRo HG2 HK2 c1' G3
    go_wp2_with fail
    refine (unhide HLe _ w3 (unhide HK3) (unhide HR3)).mono ?_
    rintro ee w4 ⟨a4, m4, c4, rfl, S4, K4⟩
    have HK4 := hide ((unhide HK3).trans K4)
    have HS4 := hide S4
    clear K4 S4 HLe HR3 HK3
    go_wp2_with fail
    refine (unhide HSa _ w4 (unhide HK4) (unhide HS4)).mono ?_
    rintro ee w5 ⟨rfl, hw⟩
    subst w5
    go_wp2_with fail
    go_ret
    exact ⟨rfl, unhide HK4⟩
end Go.Proofs.YtdioaohejoflcaaDoor

/-
  The contracts of package sign's writeHashes and Encode.
-/
namespace Go.Proofs.YtdioaohejoflcaaDoor
open Go.RowKit
open Go.Proofs

/-- a writer that is new since w0. -/
def Wn (w0 w : World) (p : Nat) (v : Value) (bs : List Int) : Prop := Wr w p v bs ∧ Kp [] w0 w ∧ w0.heap.size ≤ p ∧ ∀ k, v.ownBlock = some k → w0.heap.size ≤ k
theorem Wn.step {w0 w w' : World} {p : Nat} {v v' : Value} {bs cs : List Int} (h : Wn w0 w p v bs) (k : Wr w' p v' cs) (s : Step p w v w' v') : Wn w0 w' p v' cs := by
  obtain ⟨h1, h2, h3, h4⟩ := h
  refine ⟨k, h2.then s.1 (fun i hi => ?_), h3, fun i hi => ?_⟩
  · simp only [List.mem_cons, Option.mem_toList] at hi
    rcases hi with rfl | hi
    · exact .inr h3
    · exact .inr (h4 i hi)
  · rcases s.2 i hi with h5 | h5
    · exact h4 i h5
    · exact Nat.le_trans h2.size h5

set_option maxRecDepth 100000 in
set_option maxHeartbeats 1000000 in
theorem writes_any (p : Nat) (v : Value) (bs : List Int) (vl : Value) (l : List (Value × List Int)) (ls : List (List Int)) (hls : l.map (·.2) = ls) (w0 w : World) (hw : Wn w0 w p v bs) (hL : Lists w0 vl l) (hm : ∀ x ∈ ls, x.length = 32) (hn : ls.length ≤ 100) (hb : bs.length ≤ 100000) :
    Calls Tryd.prog 48 #[.pointer (some ⟨p, 0, none⟩), vl] w fun e w' => e = .returned (.tuple #[]) ∧ ∃ v', Wn w0 w' p v' (bs ++ ls.flatten) := by
  have HL := hide hL
  have HLS := hide hls
  have HM := hide hm
  have hlen : l.length = ls.length := by rw [← hls]; simp
  obtain ⟨al, cl, hvl, _⟩ := hL
  rw [hlen] at hvl
  subst hvl
  obtain ⟨N, hN⟩ : ∃ N, N = ls.length := ⟨_, rfl⟩
  have HN := hide hN
  rw [← hN] at hn HL ⊢
  have hni : (N : Int) ≤ 100 := by omega
  have HW := hide hw
  clear hls hm hlen hN hw
  go_enter Tryd.func48, Tryd.ntmps48
  go_wp2_with fail
  go_loopw [8] (fun j wr => ∃ k : Nat, k ≤ N ∧ j = .int .i64 k ∧ ∃ v', Wn w0 wr p v' (bs ++ (ls.take k).flatten)) (fun j _ => N - (intOf j).toNat)
  case atStart => exact ⟨0, by omega, rfl, v, by simpa using unhide HW⟩
  case round =>
    clear HW
    obtain ⟨k, hk, rfl, v', hw'⟩ := hrel
    have HW := hide hw'
    clear hw'
    by_cases hlt : k < N
    · have hlt2 : (k : Int) < (N : Int) := by omega
      have hkl : k < ls.length := by have := unhide HN; omega
      obtain ⟨b, off, ay, ny, cy, rfl, hc, hSy, hBy⟩ := lists_at (unhide HL) (unhide HLS) k hkl
      have hyl : (ls.getD k []).length = 32 := unhide HM _ (getD_mem hkl)
      have hE : (ls.take (k + 1)).flatten = (ls.take k).flatten ++ ls.getD k [] := by rw [List.take_succ_eq_append_getElem hkl, List.flatten_append]; simp [List.getD, hkl]
      have hfl : (ls.take k).flatten.length ≤ 32 * 100 := by
        have : ∀ (m : List (List Int)), (∀ x ∈ m, x.length = 32) → m.flatten.length = 32 * m.length := by
          intro m
          induction m with
          | nil => simp
          | cons a m ih =>
            intro hm
            rw [List.flatten_cons, List.length_append, ih (fun x hx => hm x (by simp [hx])), hm a (by simp), List.length_cons]
            omega
        rw [this _ (fun x hx => unhide HM x (List.mem_of_mem_take hx)), List.length_take]
        have := unhide HN
        omega
      have hcw := (unhide HW).2.1.cell hc (by simp)
      have HC := hide (raw_any p v' _ (.slice ay ny cy) (ls.getD k []) wr (unhide HW).1 (hSy.kept (unhide HW).2.1 (by simp)) (by rw [List.length_append]; omega))
      have HE := hide hE
      clear hc hSy hBy hyl hE hfl
      go_wp2_with fail
      refine (unhide HC).mono ?_
      rintro ee w2 ⟨rfl, v2, W2, S2⟩
      have HW2 := hide ((unhide HW).step W2 S2)
      clear W2 S2 HC HW hcw
      go_wp2_with fail
      go_roundw
      case rel => exact ⟨k + 1, by omega, by go_num, v2, by rw [unhide HE, ← List.append_assoc]; exact unhide HW2⟩
      case measure => simp [intOf]; omega
    · obtain rfl : k = N := by omega
      have hT : ls.take k = ls := List.take_of_length_le (by have := unhide HN; omega)
      rw [hT] at HW
      have hlt2 : ¬ (k : Int) < (k : Int) := by omega
      clear hT HL
      go_wp2_with fail
      go_end0
      exact ⟨rfl, v', unhide HW⟩

theorem be4_len (n : Int) : (be4 n).length = 4 := rfl
theorem be_4 (n : Int) : be n 4 0 = be4 n := by simp [be, byteAt, List.range_succ, be4]

set_option maxRecDepth 100000 in
set_option maxHeartbeats 2000000 in
theorem encode_any (v : Value) (i : Int) (ps qs : List (List Int)) (hr : rgtP i ps qs = true) (w : World) (hV : SigV w v i ps qs) :
    Calls Tryd.prog 24 #[v] w fun e w' => ∃ ao m c, e = .returned (.tuple #[.slice ao m c, .int .i64 0]) ∧ Row w' w.heap.size (.slice ao m c) (encP i ps qs) ∧ Kp [] w w' := by
  obtain ⟨⟨hi0, hi1⟩, ⟨hpl, hp32⟩, hql, hq32⟩ := (rgtP_iff i ps qs).1 hr
  obtain ⟨ap, np, cp, aq, nq, cq, lp, lq, rfl, hLP, hp, hLQ, hq, hnp, hnq⟩ := hV.shape
  clear hnp hnq
  obtain ⟨ob, hob⟩ : ∃ o : Obj, o = (.cells #[.int .i64 i, .slice ap np cp, .slice aq nq cq] 33) := ⟨_, rfl⟩
  have K1 : Kp [] w (w.alloc ob) := (Kp.refl [] w).alloc ob
  have HR := hide (sright_any _ i ps qs true hr.symm (w.alloc ob) (hV.kept K1))
  have HLP := hide hLP
  have HLQ := hide hLQ
  have Hp := hide hp
  have Hq := hide hq
  have H32 := hide hp32
  have H32q := hide hq32
  have hl1 := load_sig (w.alloc ob) w.heap.size (.int .i64 i) (.slice ap np cp) (.slice aq nq cq) (0, 0) (by rw [hob]; exact heap_alloc_new w _)
  have G1 : Hid ((w.alloc ob).heap[w.heap.size]? = some (.cells #[.int .i64 i, .slice ap np cp, .slice aq nq cq] 33 (0, 0))) := by rw [hob]; exact heap_alloc_new w _
  rw [hob] at K1 HR hl1 G1
  have HK1 := hide K1
  have hwrap : IntKind.u32.wrap i = i := by simp [IntKind.wrap, IntKind.signed, IntKind.bits]; omega
  have hpl' : Hid (ps.length ≤ 100) := hide (by omega)
  have hql' : Hid (qs.length ≤ 100) := hide (by omega)
  have hfp : Hid (ps.flatten.length ≤ 90000) := by
    show ps.flatten.length ≤ 90000
    have := cat_len lp 32 (fun x hx => by have := hp32 x.2 (by rw [← hp]; exact List.mem_map.2 ⟨x, hx, rfl⟩); omega)
    rw [cat_map hp] at this
    have e : lp.length = 64 := by rw [← hpl, ← hp]; simp
    omega
  have hfq : Hid (qs.flatten.length ≤ 90000) := by
    show qs.flatten.length ≤ 90000
    have := cat_len lq 32 (fun x hx => by have := hq32 x.2 (by rw [← hq]; exact List.mem_map.2 ⟨x, hx, rfl⟩); omega)
    rw [cat_map hq] at this
    have e : lq.length = 4 := by rw [← hql, ← hq]; simp
    omega
  clear hob K1 hLP hLQ hp hq hV hr hp32 hq32 hpl hql
  go_enter Tryd.func24, Tryd.ntmps24
  go_wp2_with fail
  refine (unhide HR).mono ?_
  rintro ee w2 ⟨rfl, K2⟩
  have HK2 := hide ((unhide HK1).trans K2)
  have HG2 := hide (K2.heap (unhide G1) (by simp))
  clear HR K2 HK1 G1
  go_wp2_with fail
  refine (new_abs w2).mono ?_
  rintro ee w3 ⟨p, rfl, W3, hp3, K3⟩
  have HW3 : Hid (Wn w2 w3 p (.slice none 0 0) []) := ⟨W3, K3, hp3, fun k hk => by cases hk⟩
  have e0 : w3.cell? ⟨w.heap.size, 0, none⟩ = some (.int .i64 i) := by rw [cell_of_row w3 w.heap.size 0 _ _ _ (K3.heap (unhide HG2) (by simp))]; rfl
  clear W3 hp3 K3
  go_wp2_with fail
  refine (num_any p i _ [] w3 (unhide HW3).1 (by simp)).mono ?_
  rintro ee w4 ⟨rfl, v4, W4, S4⟩
  have HW4 := hide ((unhide HW3).step W4 S4)
  rw [List.nil_append, be_4] at HW4
  have e1 : w4.cell? ⟨w.heap.size, 1, none⟩ = some (.slice ap np cp) := by rw [cell_of_row w4 w.heap.size 1 _ _ _ ((unhide HW4).2.1.heap (unhide HG2) (by simp))]; rfl
  clear W4 S4 HW3 e0
  go_wp2_with fail
  refine (writes_any p v4 (be4 i) _ lp ps (unhide Hp) w2 w4 (unhide HW4) ((unhide HLP).kept (unhide HK2)) (unhide H32) (unhide hpl') (by rw [be4_len]; omega)).mono ?_
  rintro ee w5 ⟨rfl, v5, W5⟩
  have HW5 := hide W5
  have e2 : w5.cell? ⟨w.heap.size, 2, none⟩ = some (.slice aq nq cq) := by rw [cell_of_row w5 w.heap.size 2 _ _ _ (W5.2.1.heap (unhide HG2) (by simp))]; rfl
  clear W5 HW4 e1
  go_wp2_with fail
  refine (writes_any p v5 (be4 i ++ ps.flatten) _ lq qs (unhide Hq) w2 w5 (unhide HW5) ((unhide HLQ).kept (unhide HK2)) (unhide H32q) (unhide hql') (by have := unhide hfp; rw [List.length_append, be4_len]; omega)).mono ?_
  rintro ee w6 ⟨rfl, v6, W6⟩
  have HW6 := hide W6
  have HD := hide (done_any p v6 _ w6 W6.1 (by have := unhide hfp; have := unhide hfq; rw [List.length_append, List.length_append, be4_len]; omega))
  clear W6 HW5 e2
  go_wp2_with fail
  refine (unhide HD).mono ?_
  rintro ee w7 ⟨a7, c7, rfl, R7, K7⟩
  have HR7 : Hid (Row w7 w6.heap.size (.slice a7 (be4 i ++ ps.flatten ++ qs.flatten).length c7) (be4 i ++ ps.flatten ++ qs.flatten)) := R7
  have HK6 := hide ((unhide HK2).trans (unhide HW6).2.1)
  have HK7 := hide ((unhide HK6).trans K7)
  have HE : Hid (encP i ps qs = be4 i ++ ps.flatten ++ qs.flatten) := by rw [encP, List.append_assoc]; exact rfl
  obtain ⟨m7, hm7⟩ : ∃ m, m = (be4 i ++ ps.flatten ++ qs.flatten).length := ⟨_, rfl⟩
  rw [← hm7] at HR7 ⊢
  clear R7 K7 HD HW6 hm7
  go_wp2_with fail
  go_ret2
  exact ⟨a7, m7, c7, rfl, by rw [unhide HE]; exact row_new (unhide HR7) (unhide HK6), unhide HK7⟩

set_option maxRecDepth 100000 in
set_option maxHeartbeats 1000000 in
theorem encode_no (v : Value) (i : Int) (ps qs : List (List Int)) (hr : rgtP i ps qs = false) (w : World) (hV : SigV w v i ps qs) :
    Calls Tryd.prog 24 #[v] w fun e w' => e = .returned (.tuple #[.slice none 0 0, .int .i64 12]) ∧ Kp [] w w' := by
  obtain ⟨ap, np, cp, aq, nq, cq, lp, lq, rfl, hLP, hp, hLQ, hq, hnp, hnq⟩ := hV.shape
  clear hnp hnq hLP hp hLQ hq
  obtain ⟨ob, hob⟩ : ∃ o : Obj, o = (.cells #[.int .i64 i, .slice ap np cp, .slice aq nq cq] 33) := ⟨_, rfl⟩
  have K1 : Kp [] w (w.alloc ob) := (Kp.refl [] w).alloc ob
  have HR := hide (sright_any _ i ps qs false hr.symm (w.alloc ob) (hV.kept K1))
  have hl1 := load_sig (w.alloc ob) w.heap.size (.int .i64 i) (.slice ap np cp) (.slice aq nq cq) (0, 0) (by rw [hob]; exact heap_alloc_new w _)
  rw [hob] at K1 HR hl1
  have HK1 := hide K1
  clear hob K1 hV hr
  go_enter Tryd.func24, Tryd.ntmps24
  go_wp2_with fail
  refine (unhide HR).mono ?_
  rintro ee w2 ⟨rfl, K2⟩
  have HK2 := hide ((unhide HK1).trans K2)
  clear HR K2 HK1
  go_wp2_with fail
  go_ret2
  exact ⟨rfl, unhide HK2⟩
end Go.Proofs.YtdioaohejoflcaaDoor

/-
  The contracts of package sign's readHashes and Decode.
-/
namespace Go.Proofs.YtdioaohejoflcaaDoor
open Go.RowKit
open Go.Proofs

theorem chP_succ (n : Nat) (b : List Int) : chP (n + 1) b = chP n b ++ [(b.drop (32 * n)).take 32] := by simp [chP, List.range_succ]
theorem chP_len (n : Nat) (b : List Int) : (chP n b).length = n := by simp [chP]
theorem chP_32 (n : Nat) (b : List Int) (h : 32 * n ≤ b.length) : ∀ x ∈ chP n b, x.length = 32 := by
  intro x hx
  obtain ⟨i, hi, rfl⟩ := List.mem_map.1 hx
  have : i < n := by simpa using hi
  rw [List.length_take, List.length_drop]
  omega
/-- a block that is no part of it changes. -/
theorem AccS.off {S : List Nat} {F : Nat → Prop} {w wr w2 : World} {ls : List (List Int)} {v : Value} {q : Nat} (h : AccS S F w ls v wr) (k : Kp [q] wr w2) (hq : q ∈ S) (hF : ∀ i, F i → i ≠ q) (hlt : q < w.heap.size) : AccS S F w ls v w2 := by
  obtain ⟨l, ⟨h1, h1'⟩, h2, h3, h4⟩ := h
  refine ⟨l, ⟨h1.kept k (fun i hi => ?_), fun x hx => ⟨(h1' x hx).1.kept k (fun i hi => by simpa using hF i (h4 x hx i hi)), (h1' x hx).2⟩⟩, h2, h3.trans (k.mono (by simpa using hq)), h4⟩
  have := h1.own i hi
  simp; omega

set_option maxRecDepth 100000 in
set_option maxHeartbeats 2000000 in
theorem reads_any (q : Nat) (v : Value) (bs : List Int) (n : Nat) (w : World) (hR : Rd w q v false bs) (hv : ∀ k, v.ownBlock = some k → k < w.heap.size) (hB : Bs bs) (hn : 32 * n ≤ bs.length) (hn1 : n ≤ 100) (hb : bs.length ≤ 100000) :
    Calls Tryd.prog 45 #[.pointer (some ⟨q, 0, none⟩), .int .i64 n] w fun e w' => ∃ ao m c, e = .returned (.slice ao m c) ∧ AccS [q] (w.heap.size ≤ ·) w (chP n bs) (.slice ao m c) w' ∧ ∃ v2, Rd w' q v2 false (bs.drop (32 * n)) ∧ ∀ k, v2.ownBlock = some k → v.ownBlock = some k := by
  obtain ⟨i0, hi0, hz0, hz1, hz2⟩ := info_parts Tryd.infoSl
  have hqlt : q < w.heap.size := lt_of_block hR.1
  have HR := hide hR
  have HV := hide hv
  have HB := hide hB
  have hni : (n : Int) ≤ 100 := by omega
  clear hR hv hB
  go_enter Tryd.func45, Tryd.ntmps45
  go_wp2_with (at_make; refine wpList_make_own _ rfl _ _ 31 rfl w.heap.size 24 i0 (.slice none 0 0) 1 Tryd.underlying31 hi0 hz0 hz1 .i64 .i64 _ n rfl rfl (by omega) (by rw [hz2]; omega) (by unfold maxLen; omega) (Nat.le_refl _) ?_; intro w1 o1 g1; have K1 : Kp [] w w1 := (Kp.refl [] w).grown g1 (by intro k hk; cases hk); have R1 : RowV w1 w.heap.size _ [] := o1)
  have A1 : Hid (AccS [q] (w.heap.size ≤ ·) w (chP 0 bs) (.slice (some ⟨w.heap.size, 0, none⟩) 0 n) w1) := ⟨[], ⟨R1, fun x hx => by cases hx⟩, rfl, K1.mono (by simp), fun x hx => by cases hx⟩
  have HR1 : Hid (∃ v2, Rd w1 q v2 false (bs.drop (32 * 0)) ∧ ∀ k, v2.ownBlock = some k → v.ownBlock = some k) := ⟨v, by simpa using (unhide HR).kept K1 (by simp) (by simp), fun _ h => h⟩
  clear o1 g1 R1 K1
  go_loopw [5, 9] (fun l j wr => ∃ (k m cc : Nat) (ao : Option Addr), k ≤ n ∧ l = .slice ao m cc ∧ j = .int .i64 k ∧ AccS [q] (w.heap.size ≤ ·) w (chP k bs) l wr ∧ ∃ v2, Rd wr q v2 false (bs.drop (32 * k)) ∧ ∀ k, v2.ownBlock = some k → v.ownBlock = some k) (fun _ j _ => n - (intOf j).toNat)
  case atStart => exact ⟨0, 0, n, some ⟨w.heap.size, 0, none⟩, by omega, rfl, rfl, unhide A1, unhide HR1⟩
  case round =>
    clear A1 HR1
    obtain ⟨k, m, cc, ao, hk, rfl, rfl, Ar, v2, R2, hv2⟩ := hrel
    have HA := hide Ar
    have HR2 := hide R2
    have HV2 := hide hv2
    clear Ar R2 hv2
    by_cases hlt : k < n
    · have hlt2 : (k : Int) < (n : Int) := by omega
      have htk : tk false (bs.drop (32 * k)) ((32 : Nat) : Int) = ((bs.drop (32 * k)).take 32, false, bs.drop (32 * (k + 1))) := by
        rw [tk_ok _ _ 32 (by rw [List.length_drop]; omega), List.drop_drop]
        rw [show 32 * k + 32 = 32 * (k + 1) by omega]
      have hC := raw_ok q v2 false (bs.drop (32 * k)) ((32 : Nat) : Int) wr (unhide HR2) (by rw [List.length_drop]; omega)
      rw [htk] at hC
      obtain ⟨X, hX⟩ : ∃ X, X = (bs.drop (32 * k)).take 32 := ⟨_, rfl⟩
      have HE : Hid (chP (k + 1) bs = chP k bs ++ [X]) := by rw [hX]; exact chP_succ k bs
      have HXB : Hid (Bs X) := by rw [hX]; exact ((unhide HB).drop _).take _
      have hXl : X.length = 32 := by rw [hX, List.length_take, List.length_drop]; omega
      have HLN : Hid ((chP k bs).length ≤ 1000000) := by rw [chP_len]; show k ≤ 1000000; omega
      rw [← hX] at hC
      dsimp only at hC
      rw [hXl] at hC
      have HC := hide hC
      clear hC htk hX hXl
      go_wp2_with fail
      refine (unhide HC).mono ?_
      rintro ee w3 ⟨a3, c3, rfl, ⟨S3, O3⟩, ⟨v3, R3, hv3⟩, K3⟩
      have HA3 := hide ((unhide HA).off K3 (by simp) (fun i hi e => by subst e; omega) hqlt)
      have HS3 := hide S3
      have HAP : Hid (∀ i, (Value.slice a3 32 c3).ownBlock = some i → (Value.slice ao m cc).ownBlock = some i → X = []) := fun i h1 h2 => by
        have := O3 i h1
        have := (unhide HA).lt i h2
        omega
      have HF : Hid (∀ i, (Value.slice a3 32 c3).ownBlock = some i → w.heap.size ≤ i) := fun i h1 => Nat.le_trans (unhide HA).kp.size (O3 i h1)
      have HR3 := hide R3
      have HV3 : Hid (∀ i, v3.ownBlock = some i → v.ownBlock = some i) := fun i h1 => unhide HV2 i (hv3 i h1)
      clear S3 O3 R3 hv3 K3 HC HA HR2 HV2
      go_wp2_with (at_builtin; refine wpList_accs rfl (.tmp 11) (.tmp 14) rfl (.slice ao m cc) _ rfl (unhide HA3) (unhide HLN) _ X (unhide HS3) (unhide HXB) (unhide HAP) (unhide HF) rfl ?_; intro ao5 m5 c5 w5 A5 S5)
      have HA5 := hide A5
      have HR5 : Hid (Rd w5 q v3 false (bs.drop (32 * (k + 1)))) := by
        have hown : ∀ i, (Value.slice ao m cc).ownBlock = some i → w.heap.size ≤ i := by obtain ⟨_, h1, _⟩ := unhide HA3; exact h1.1.own
        refine (unhide HR3).kept S5.1 (fun hm => ?_) (fun i hi hm => ?_)
        · have := hown q (by simpa using hm); omega
        · have := hown i (by simpa using hm)
          have := unhide HV i (unhide HV3 i hi)
          omega
      clear A5 S5 HA3 HR3 HS3 HAP HF
      go_roundw
      case rel => exact ⟨k + 1, m5, c5, ao5, by omega, rfl, by go_num, by have e := unhide HE; rw [← e] at HA5; exact unhide HA5, v3, unhide HR5, unhide HV3⟩
      case measure => simp [intOf]; omega
    · obtain rfl : k = n := by omega
      have hlt2 : ¬ (k : Int) < (k : Int) := by omega
      go_wp2_with fail
      go_ret
      exact ⟨ao, m, cc, rfl, unhide HA, v2, unhide HR2, unhide HV2⟩

theorem Lists.old {w w' : World} {v : Value} {l : List (Value × List Int)} {S : List Nat} (h : Lists w v l) (k : Kp S w w') (hS : ∀ q ∈ S, w.heap.size ≤ q) : Lists w' v l := by
  obtain ⟨ao, c, rfl, h1, h2⟩ := h
  refine ⟨ao, c, rfl, h1, fun i hi => ?_⟩
  obtain ⟨b, off, e, h3, h4, h5⟩ := h2 i hi
  subst e
  have hb := World.block_lt_of_cell? _ _ h3
  exact ⟨b, off, rfl, k.cell h3 (fun hm => by have := hS _ hm; simp at this hb; omega), h4.old k (fun i _ hlt hm => by have := hS _ hm; omega), h5⟩
theorem SigV.old {w w' : World} {v : Value} {i : Int} {ps qs : List (List Int)} {S : List Nat} (h : SigV w v i ps qs) (k : Kp S w w') (hS : ∀ q ∈ S, w.heap.size ≤ q) : SigV w' v i ps qs := by
  obtain ⟨vp, vq, lp, lq, e, h1, h2, h3, h4⟩ := h
  exact ⟨vp, vq, lp, lq, e, h1.old k hS, h2, h3.old k hS, h4⟩
theorem setCell_kp (w : World) (g j : Nat) (u : Value) : Kp [g] w (w.setCell ⟨g, j, none⟩ u) := (Kp.refl [g] w).setCell (p := ⟨g, j, none⟩) (.inl (by simp)) _

/-- a signature that is nothing. -/
def sig0 : Value := .agg #[.int .i64 0, .slice none 0 0, .slice none 0 0]
theorem sig0_v (w : World) : SigV w sig0 0 [] [] := ⟨_, _, [], [], rfl, lists_nil _ _ _, rfl, lists_nil _ _ _, rfl⟩

set_option maxRecDepth 100000 in
set_option maxHeartbeats 4000000 in
theorem decode_long (vb : Value) (bs : List Int) (w : World) (hS : Sl w vb bs) (hl : bs.length ≠ 2180) :
    Calls Tryd.prog 19 #[vb] w fun e w' => e = .returned (.tuple #[sig0, .int .i64 12]) ∧ Kp [] w w' := by
  obtain ⟨ab, cb, rfl, _⟩ := hS
  obtain ⟨nb, hnb⟩ : ∃ n, n = bs.length := ⟨_, rfl⟩
  rw [← hnb] at hl ⊢
  have hni : ¬ (nb : Int) = 2180 := by omega
  have G1 := heap_alloc_new w (.cells #[.int .i64 0, .slice none 0 0, .slice none 0 0] 33)
  have HK1 := hide ((Kp.refl [] w).alloc (.cells #[.int .i64 0, .slice none 0 0, .slice none 0 0] 33))
  clear hnb hl
  go_enter Tryd.func19, Tryd.ntmps19
  go_wp2_with (refine wpList_store_sig rfl (.tmp 2) (.tmp 9) rfl w.heap.size rfl _ _ _ _ _ _ G1 rfl ⟨rfl, rfl, rfl⟩ ?_; intro w4 G4 K4)
  refine bodyPost_ret (results_sig rfl _ _ w.heap.size _ _ _ (0, 0) rfl G4) rfl ?_
  exact ⟨rfl, (unhide HK1).then K4 (by simp)⟩

/-- what Decode answers. -/
def Decd (b : List Int) (v : Value) (e : Int) (w' : World) : Prop :=
  if decOk b then SigV w' v (val (b.take 4)) (chP 64 (b.drop 4)) (chP 4 (b.drop 2052)) ∧ e = 0 else v = sig0 ∧ e = 12

set_option maxRecDepth 100000 in
set_option maxHeartbeats 4000000 in
theorem decode_any (vb : Value) (bs : List Int) (w : World) (hS : Sl w vb bs) (hB : Bs bs) :
    Calls Tryd.prog 19 #[vb] w fun e w' => ∃ v x, e = .returned (.tuple #[v, .int .i64 x]) ∧ Decd bs v x w' ∧ Kp [] w w' := by
  by_cases hl : bs.length = 2180
  · have HB := hide hB
    have HL := hide hl
    obtain ⟨ob, hob⟩ : ∃ o : Obj, o = (.cells #[.int .i64 0, .slice none 0 0, .slice none 0 0] 33) := ⟨_, rfl⟩
    have K1 : Kp [] w (w.alloc ob) := (Kp.refl [] w).alloc ob
    have HRd := hide (read_any vb bs (w.alloc ob) (hS.kept K1 (by simp)) (by omega))
    have G1 : Hid ((w.alloc ob).heap[w.heap.size]? = some ob) := heap_alloc_new w ob
    rw [hob] at K1 HRd G1
    have HK1 := hide K1
    obtain ⟨ab, cb, hvb, _⟩ := hS
    rw [hl] at hvb
    subst hvb
    clear hob K1 hB hl
    go_enter Tryd.func19, Tryd.ntmps19
    go_wp2_with fail
    refine (unhide HRd).mono ?_
    rintro ee w2 ⟨q, v2, rfl, hq2, R2, hv2, K2⟩
    have HK2 := hide ((unhide HK1).trans K2)
    have HG2 := hide (K2.heap (unhide G1) (by simp))
    have HKa : Hid (Kp [] w2 (w2.alloc (.cells #[.int .i64 0, .slice none 0 0, .slice none 0 0] 33))) := (Kp.refl [] w2).alloc _
    have HR2 := hide (R2.kept (unhide HKa) (by simp) (by simp))
    have hqlt : q < w2.heap.size := lt_of_block R2.1
    have HV2 := hide hv2
    have hqw : w.heap.size < q := by have e : (w.alloc ob).heap.size = w.heap.size + 1 := by simp
                                     have e' : ∀ o : Obj, (w.alloc o).heap.size = w.heap.size + 1 := fun o => by simp
                                     rw [e'] at hq2; omega
    have HGa : Hid ((w2.alloc (.cells #[.int .i64 0, .slice none 0 0, .slice none 0 0] 33)).heap[w2.heap.size]? = some (.cells #[.int .i64 0, .slice none 0 0, .slice none 0 0] 33)) := heap_alloc_new w2 _
    have hRn := rnum_any q v2 false bs _ (unhide HR2) (unhide HB)
    rw [show tk false bs 4 = (bs.take 4, false, bs.drop 4) from tk_ok false bs 4 (by have := unhide HL; omega)] at hRn
    obtain ⟨x, hx⟩ : ∃ x, x = val (bs.take 4) := ⟨_, rfl⟩
    dsimp only at hRn
    rw [← hx] at hRn
    have hxb : 0 ≤ x ∧ x < 4294967296 := by
      have := val_bd (bs.take 4) ((unhide HB).take 4)
      rw [List.length_take, Nat.min_eq_left (by have := unhide HL; omega), ← hx] at this
      exact ⟨this.1, by simpa using this.2⟩
    have hwx : IntKind.i64.wrap x = x := wrap_at rfl (by omega) (by omega)
    have HX := hide hx
    have HXB := hide hxb
    have HRn := hide hRn
    clear hx hxb hRn
    clear HRd R2 hv2 K2 HK1 G1 hq2
    go_wp2_with fail
    refine (unhide HRn).mono ?_
    rintro ee w3 ⟨rfl, ⟨v3, R3, hv3⟩, K3⟩
    obtain ⟨g1, hg1⟩ : ∃ g, g = w2.heap.size := ⟨_, rfl⟩
    rw [← hg1] at HGa hqlt HV2 ⊢
    have hza : Hid (∀ o : Obj, (w2.alloc o).heap.size = g1 + 1) := fun o => by rw [hg1]; simp
    have G3 : w3.heap[g1]? = some (.cells #[.int .i64 0, .slice none 0 0, .slice none 0 0] 33) := K3.heap (unhide HGa) (by simp; omega)
    have hc3 : w3.cell? ⟨g1, 0, none⟩ = some (.int .i64 0) := by rw [cell_of_row w3 g1 0 _ _ _ G3]; rfl
    have hf3 : w3.frozen? ⟨g1, 0, none⟩ = false := frozen_of_row w3 g1 0 _ _ G3
    have HK3 : Hid (Kp [] w w3) := ((unhide HK2).trans (unhide HKa)).then K3 (fun i hi => .inr (by simp at hi; omega))
    have k4 := setCell_kp w3 g1 0 (.int .i64 x)
    have g4 := heap_setCell_same w3 g1 0 _ _ (.int .i64 x) G3
    have hv3' : ∀ k, v3.ownBlock = some k → k < g1 := fun k hk => (unhide HV2 k (hv3 k hk)).2
    have R4 := R3.kept k4 (by simp; omega) (fun i hi => by have := hv3' i hi; simp; omega)
    have hsz3 : g1 + 1 ≤ w3.heap.size := by have := K3.size; rw [unhide hza] at this; exact this
    have hsz4 : w3.heap.size ≤ (w3.setCell ⟨g1, 0, none⟩ (.int .i64 x)).heap.size := k4.size
    have HC4 := hide (reads_any q v3 (bs.drop 4) 64 _ R4 (fun k hk => by have := hv3' k hk; omega) ((unhide HB).drop 4) (by rw [List.length_drop]; have := unhide HL; omega) (by omega) (by rw [List.length_drop]; have := unhide HL; omega))
    have HK4 : Hid (Kp [] w (w3.setCell ⟨g1, 0, none⟩ (.int .i64 x))) := (unhide HK3).then k4 (fun i hi => .inr (by simp at hi; subst hi; have := (unhide HK2).size; omega))
    have HG4 := hide g4
    have HV3 := hide hv3'
    have HQ4 : Hid (Kp [q, g1] w2 (w3.setCell ⟨g1, 0, none⟩ (.int .i64 x))) := (((unhide HKa).mono (by simp)).trans (K3.mono (by simp))).trans (k4.mono (by simp))
    have HGW : Hid (w.heap.size < g1) := hide (by omega)
    clear G3 k4 g4 hv3' R4 R3 hv3 K3 HRn HR2 HGa HKa HK3 HV2 hg1
    go_wp2_with fail
    refine (unhide HC4).mono ?_
    rintro ee w5 ⟨a5, m5, c5, rfl, A5, v5, R5, hv5⟩
    have hA5 := A5.kp
    have HG5 : w5.heap[g1]? = some _ := hA5.heap (unhide HG4) (by simp; omega)
    have hc5 : w5.cell? ⟨g1, 1, none⟩ = some (.slice none 0 0) := by rw [cell_of_row w5 g1 1 _ _ _ HG5]; rfl
    have hf5 : w5.frozen? ⟨g1, 1, none⟩ = false := frozen_of_row w5 g1 1 _ _ HG5
    have k6 := setCell_kp w5 g1 1 (.slice a5 m5 c5)
    have g6 := heap_setCell_same w5 g1 1 _ _ (.slice a5 m5 c5) HG5
    have HL5 : Hid (∃ l, Lists w5 (.slice a5 m5 c5) l ∧ l.map (·.2) = chP 64 (bs.drop 4) ∧ (∀ q, (Value.slice a5 m5 c5).ownBlock = some q → g1 + 1 ≤ q) ∧ ∀ x ∈ l, ∀ q, x.1.ownBlock = some q → g1 + 1 ≤ q) := by
      obtain ⟨l, h1, h2, h3, h4⟩ := A5.lists (by rw [chP_len]; omega)
      exact ⟨l, h1, h2, fun q hq => by have := h3 q hq; omega, fun x hx q hq => by have := h4 x hx q hq; omega⟩
    have hv5' : ∀ k, v5.ownBlock = some k → k < g1 := fun k hk => unhide HV3 k (hv5 k hk)
    have hsz5 : g1 + 1 ≤ w5.heap.size := by have := hA5.size; omega
    have R6 := R5.kept k6 (by simp; omega) (fun i hi => by have := hv5' i hi; simp; omega)
    have hsz6 := k6.size
    rw [List.drop_drop] at R6
    have HC6 := hide (reads_any q v5 (bs.drop (4 + 32 * 64)) 4 _ R6 (fun k hk => by have := hv5' k hk; omega) ((unhide HB).drop _) (by rw [List.length_drop]; have := unhide HL; omega) (by omega) (by rw [List.length_drop]; have := unhide HL; omega))
    have HK5 : Hid (Kp [] w w5) := (unhide HK4).then hA5 (fun i hi => .inr (by simp at hi; omega))
    have HK6 : Hid (Kp [] w (w5.setCell ⟨g1, 1, none⟩ (.slice a5 m5 c5))) := (unhide HK5).then k6 (fun i hi => .inr (by simp at hi; subst hi; have := unhide HGW; omega))
    have HK56 := hide k6
    have HQ6 : Hid (Kp [q, g1] w2 (w5.setCell ⟨g1, 1, none⟩ (.slice a5 m5 c5))) := ((unhide HQ4).trans (hA5.mono (by simp))).trans (k6.mono (by simp))
    have HG6 := hide g6
    clear HG5 k6 g6 hv5' R6 R5 hv5 A5 hA5 HC4 HG4 HV3 HK4 HK5 hc3 hf3 hsz3 hsz4
    go_wp2_with fail
    refine (unhide HC6).mono ?_
    rintro ee w7 ⟨a7, m7, c7, rfl, A7, -⟩
    have hA7 := A7.kp
    have HG7 : w7.heap[g1]? = some _ := hA7.heap (unhide HG6) (by simp; omega)
    have hc7 : w7.cell? ⟨g1, 2, none⟩ = some (.slice none 0 0) := by rw [cell_of_row w7 g1 2 _ _ _ HG7]; rfl
    have hf7 : w7.frozen? ⟨g1, 2, none⟩ = false := frozen_of_row w7 g1 2 _ _ HG7
    have k8 := setCell_kp w7 g1 2 (.slice a7 m7 c7)
    have g8 := heap_setCell_same w7 g1 2 _ _ (.slice a7 m7 c7) HG7
    have HK7 : Hid (Kp [] w w7) := (unhide HK6).then hA7 (fun i hi => .inr (by simp at hi; omega))
    have HK8 : Hid (Kp [] w (w7.setCell ⟨g1, 2, none⟩ (.slice a7 m7 c7))) := (unhide HK7).then k8 (fun i hi => .inr (by simp at hi; subst hi; have := unhide HGW; omega))
    have HV8 : Hid (SigV (w7.setCell ⟨g1, 2, none⟩ (.slice a7 m7 c7)) (.agg #[.int .i64 x, .slice a5 m5 c5, .slice a7 m7 c7]) x (chP 64 (bs.drop 4)) (chP 4 (bs.drop 2052)) ∧ ∀ w9, Kp [w.heap.size] (w7.setCell ⟨g1, 2, none⟩ (.slice a7 m7 c7)) w9 → SigV w9 (.agg #[.int .i64 x, .slice a5 m5 c5, .slice a7 m7 c7]) x (chP 64 (bs.drop 4)) (chP 4 (bs.drop 2052))) := by
      obtain ⟨lp, h1, h2, h3, h4⟩ := unhide HL5
      obtain ⟨lq, g1', g2, g3, g4⟩ := A7.lists (by rw [chP_len]; omega)
      have p6 := h1.off (unhide HK56) (fun q hq => by have := h3 q hq; simp; omega) (fun y hy q hq => by have := h4 y hy q hq; simp; omega)
      have p7 := p6.off hA7 (fun i hq => by have := h3 i hq; simp; omega) (fun y hy i hq => by have := h4 y hy i hq; simp; omega)
      have p8 := p7.off k8 (fun q hq => by have := h3 q hq; simp; omega) (fun y hy q hq => by have := h4 y hy q hq; simp; omega)
      have q8 := g1'.off k8 (fun q hq => by have := g3 q hq; simp; omega) (fun y hy q hq => by have := g4 y hy q hq; simp; omega)
      refine ⟨⟨_, _, lp, lq, rfl, p8, h2, q8, g2⟩, fun w9 k9 => ⟨_, _, lp, lq, rfl, p8.off k9 (fun q hq => ?_) (fun y hy q hq => ?_), h2, q8.off k9 (fun q hq => ?_) (fun y hy q hq => ?_), g2⟩⟩
      · have := h3 q hq; have := unhide HGW; simp; omega
      · have := h4 y hy q hq; have := unhide HGW; simp; omega
      · have := g3 q hq; have := unhide HGW; simp; omega
      · have := g4 y hy q hq; have := unhide HGW; simp; omega
    obtain ⟨r, hr⟩ : ∃ r, r = rgtP x (chP 64 (bs.drop 4)) (chP 4 (bs.drop 2052)) := ⟨_, rfl⟩
    have hrd : r = decOk bs := by
      have hxb := unhide HXB
      by_cases h16 : x < 16
      · have e1 : rgtP x (chP 64 (bs.drop 4)) (chP 4 (bs.drop 2052)) = true := (rgtP_iff _ _ _).2 ⟨⟨hxb.1, h16⟩, ⟨chP_len _ _, chP_32 _ _ (by rw [List.length_drop]; have := unhide HL; omega)⟩, chP_len _ _, chP_32 _ _ (by rw [List.length_drop]; have := unhide HL; omega)⟩
        have e2 : decOk bs = true := by unfold decOk; rw [← unhide HX, unhide HL]; simp [h16]
        rw [hr, e1, e2]
      · have e1 : rgtP x (chP 64 (bs.drop 4)) (chP 4 (bs.drop 2052)) = false := by
          cases h : rgtP x (chP 64 (bs.drop 4)) (chP 4 (bs.drop 2052)) with
          | false => rfl
          | true => exact absurd ((rgtP_iff _ _ _).1 h).1.2 h16
        have e2 : decOk bs = false := by unfold decOk; rw [← unhide HX]; simp [h16]
        rw [hr, e1, e2]
    have HRi := hide (sright_any _ x _ _ r hr _ (unhide HV8).1)
    have HG8 := hide g8
    have HRD := hide hrd
    have HG0 : Hid ((w7.setCell ⟨g1, 2, none⟩ (.slice a7 m7 c7)).heap[w.heap.size]? = some (.cells #[.int .i64 0, .slice none 0 0, .slice none 0 0] 33)) := (((unhide HQ6).trans (hA7.mono (by simp))).trans (k8.mono (by simp))).heap (unhide HG2) (by have := unhide HGW; simp; omega)
    clear HG7 k8 g8 A7 hA7 HC6 HG6 HK6 HK7 HL5 HK56 hc5 hf5 hsz5 hsz6 hr hrd HQ4 HQ6
    go_wp2_with (refine wpList_load_row rfl 33 (.tmp 5) rfl g1 rfl 33 _ (0, 0) _ (unhide HG8) Tryd.underlying33 rfl Tryd.sigSize ?_)
    refine (unhide HRi).mono ?_
    rintro ee w9 ⟨rfl, K9⟩
    have HK9 := hide ((unhide HK8).trans K9)
    have G0 := K9.heap (unhide HG0) (by simp)
    have G9 := K9.heap (unhide HG8) (by simp)
    have HV9 : Hid (∀ w', Kp [w.heap.size] w9 w' → SigV w' (.agg #[.int .i64 x, .slice a5 m5 c5, .slice a7 m7 c7]) x (chP 64 (bs.drop 4)) (chP 4 (bs.drop 2052))) := fun w' k' => (unhide HV8).2 w' ((K9.mono (by simp)).trans k')
    clear HRi K9 HG8 HG0 HK8 HV8 hc7 hf7
    have HG9 := hide G9
    clear G9
    cases r
    · go_wp2_with (refine wpList_store_sig rfl (.tmp 2) (.tmp 25) rfl w.heap.size rfl _ _ _ _ _ _ G0 rfl ⟨rfl, rfl, rfl⟩ ?_; intro w4 G4 K4)
      refine bodyPost_ret (results_sig rfl _ _ w.heap.size _ _ _ (0, 0) rfl G4) rfl ?_
      exact ⟨_, _, rfl, by unfold Decd; rw [← unhide HRD]; exact ⟨rfl, rfl⟩, (unhide HK9).then K4 (by simp)⟩
    · go_wp2_with (refine wpList_load_row rfl 33 (.tmp 5) rfl g1 rfl 33 _ (0, 0) _ (unhide HG9) Tryd.underlying33 rfl Tryd.sigSize ?_; refine Hid.out ?_)
      refine hide ?_
      go_wp2_with (refine wpList_store_sig rfl (.tmp 2) (.tmp 26) rfl w.heap.size rfl _ _ _ _ _ _ G0 rfl ⟨rfl, rfl, rfl⟩ ?_; intro w4 G4 K4)
      refine bodyPost_ret (results_sig rfl _ _ w.heap.size _ _ _ (0, 0) rfl G4) rfl ?_
      exact ⟨_, _, rfl, by unfold Decd; rw [← unhide HRD]; exact ⟨by rw [← unhide HX]; exact unhide HV9 w4 K4, rfl⟩, (unhide HK9).then K4 (by simp)⟩
  · have hno : decOk bs = false := by unfold decOk; simp [hl]
    refine (decode_long vb bs w hS hl).mono ?_
    rintro e w' ⟨rfl, K⟩
    exact ⟨_, _, rfl, by unfold Decd; rw [hno]; exact ⟨rfl, rfl⟩, K⟩
end Go.Proofs.YtdioaohejoflcaaDoor

/-
  The contracts of package sign's sameLists and Same.
-/
namespace Go.Proofs.YtdioaohejoflcaaDoor
open Go.RowKit
open Go.Proofs

theorem take_step {l m : List (List Int)} {k : Nat} (h : l.take k = m.take k) (h1 : k < l.length) (h2 : k < m.length) (e : l.getD k [] = m.getD k []) : l.take (k + 1) = m.take (k + 1) := by
  rw [List.take_succ_eq_append_getElem h1, List.take_succ_eq_append_getElem h2, h]
  simp [List.getD, h1, h2] at e
  rw [e]

set_option maxRecDepth 100000 in
set_option maxHeartbeats 2000000 in
theorem sameLists_any (va vb : Value) (la lb : List (Value × List Int)) (xs ys : List (List Int)) (hxs : la.map (·.2) = xs) (hys : lb.map (·.2) = ys) (c : Bool) (hc : c = decide (xs = ys)) (w : World) (hA : Lists w va la) (hB : Lists w vb lb) :
    Calls Tryd.prog 50 #[va, vb] w fun e w' => e = .returned (.bool c) ∧ Kp [] w w' := by
  have HA := hide hA
  have HB := hide hB
  have HXS := hide hxs
  have HYS := hide hys
  have HC := hide hc
  have hN1 : xs.length ≤ 9223372036854775807 := by obtain ⟨_, _, _, h, _⟩ := hA; rw [← hxs, List.length_map]; exact h
  have hlx : la.length = xs.length := by rw [← hxs]; simp
  have hly : lb.length = ys.length := by rw [← hys]; simp
  obtain ⟨aa, ca, hva, _⟩ := hA
  obtain ⟨ab, cb, hvb, _⟩ := hB
  rw [hlx] at hva
  rw [hly] at hvb
  subst hva
  subst hvb
  obtain ⟨N, hN⟩ : ∃ N, N = xs.length := ⟨_, rfl⟩
  obtain ⟨M, hM⟩ : ∃ M, M = ys.length := ⟨_, rfl⟩
  rw [← hN] at HA hN1 ⊢
  rw [← hM] at HB ⊢
  have HN := hide hN
  have HM := hide hM
  clear hxs hys hlx hly hN hM hc
  by_cases hMN : M = N
  · subst hMN
    have hni : (M : Int) ≤ 9223372036854775807 := by omega
    go_enter Tryd.func50, Tryd.ntmps50
    go_wp2_with fail
    go_loopw [13] (fun j wr => ∃ k : Nat, k ≤ M ∧ j = .int .i64 k ∧ xs.take k = ys.take k ∧ Kp [] w wr) (fun j _ => M - (intOf j).toNat)
    case atStart => exact ⟨0, by omega, rfl, rfl, Kp.refl _ _⟩
    case round =>
      obtain ⟨k, hk, rfl, ht, Kr⟩ := hrel
      have HT := hide ht
      have HKr := hide Kr
      clear ht Kr
      by_cases hlt : k < M
      · have hlt2 : (k : Int) < (M : Int) := by omega
        obtain ⟨b1, o1, ax, nx, cx, rfl, hcx, hSx, hBx⟩ := lists_at (unhide HA) (unhide HXS) k (by have := unhide HN; omega)
        obtain ⟨b2, o2, ay, ny, cy, rfl, hcy, hSy, hBy⟩ := lists_at (unhide HB) (unhide HYS) k (by have := unhide HM; omega)
        have CX : ∀ w', Kp [] wr.drew w' → w'.cell? ⟨b1, o1 + k, none⟩ = some (.slice ax nx cx) := fun w' k' => (((unhide HKr).trans (kp_drew wr)).trans k').cell hcx (by simp)
        have CY : ∀ w', Kp [] wr.drew w' → w'.cell? ⟨b2, o2 + k, none⟩ = some (.slice ay ny cy) := fun w' k' => (((unhide HKr).trans (kp_drew wr)).trans k').cell hcy (by simp)
        obtain ⟨X, hX⟩ : ∃ X, X = xs.getD k [] := ⟨_, rfl⟩
        obtain ⟨Y, hY⟩ : ∃ Y, Y = ys.getD k [] := ⟨_, rfl⟩
        rw [← hX] at hSx hBx
        rw [← hY] at hSy hBy
        have SX : ∀ w', Kp [] wr.drew w' → Sl w' (.slice ax nx cx) X := fun w' k' => hSx.kept (((unhide HKr).trans (kp_drew wr)).trans k') (by simp)
        have SY : ∀ w', Kp [] wr.drew w' → Sl w' (.slice ay ny cy) Y := fun w' k' => hSy.kept (((unhide HKr).trans (kp_drew wr)).trans k') (by simp)
        obtain ⟨S, hS⟩ : ∃ S, S = strOfNums X := ⟨_, rfl⟩
        obtain ⟨T, hT⟩ : ∃ T, T = strOfNums Y := ⟨_, rfl⟩
        obtain ⟨bb, hbb⟩ : ∃ b, b = (S.toList == T.toList) := ⟨_, rfl⟩
        have HBB : Hid (bb = decide (X = Y)) := by rw [hbb, hS, hT]; exact str_beq X Y hBx hBy
        have HCX := hide CX
        have HCY := hide CY
        have HSX := hide SX
        have HSY := hide SY
        have HX := hide hX
        have HY := hide hY
        have HS := hide hS
        have HT' := hide hT
        have HB1 := hide hbb
        clear hcx hcy hSx hSy hBx hBy CX CY SX SY hX hY hS hT hbb
        go_wp2_with fail
        refine region_grow Tryd.mixed [Is (.slice (some ⟨b1, o1, none⟩) M ca), Is (.int .i64 k), Is (.pointer (some ⟨b1, o1 + k, none⟩)), Is (.slice ax nx cx), Is (.slice (some ⟨b2, o2, none⟩) M cb), Is (.int .i64 k), Is (.pointer (some ⟨b2, o2 + k, none⟩)), Is (.slice ay ny cy), Is (.bool bb), Is (.bool (!bb))] [[(0, none)], [(5, none)], [(16, some 0), (17, some 1)], [(18, some 2)], [(1, none)], [(5, none)], [(20, some 4), (21, some 5)], [(22, some 6)], [(19, some 3), (23, some 7)], [(24, some 8)]] (by kernel_rfl) ?_ ?_ ?_
        · simp only [List.mem_cons, List.not_mem_nil, or_false]
          intro R hR
          rcases hR with rfl | rfl | rfl | rfl | rfl | rfl | rfl | rfl | rfl | rfl <;> first | exact stable_is _
        · refine steps_cons (fun a w hk hn => ?_) ?_
          · have h0 : a.eval (.tmp 0) = .slice (some ⟨b1, o1, none⟩) M ca := hn.1
            clear hn
            refine wants_plain rfl ?_
            exact grown_move (.tmp 0) rfl h0
          refine steps_cons (fun a w hk hn => ?_) ?_
          · have h5 : a.eval (.tmp 5) = .int .i64 k := hn.1
            clear hn
            refine wants_plain rfl ?_
            exact grown_move (.tmp 5) rfl h5
          refine steps_cons (fun a w hk hn => ?_) ?_
          · have h16 : a.eval (.tmp 16) = .slice (some ⟨b1, o1, none⟩) M ca := hn.1
            have h17 : a.eval (.tmp 17) = .int .i64 k := hn.2.1
            clear hn
            refine wants_plain rfl ?_
            refine grown_run (v := .pointer (some ⟨b1, o1 + k, none⟩)) ?_ (Kp.refl _ _) rfl
            obtain ⟨ρ, hρ, hc, hf, hg⟩ := eval_is a
            rw [hρ] at h16 h17 ⊢
            simp [go_sem, h16, h17, hlt2]
          refine steps_cons (fun a w hk hn => ?_) ?_
          · have h18 : a.eval (.tmp 18) = .pointer (some ⟨b1, o1 + k, none⟩) := hn.1
            clear hn
            refine wants_plain rfl ?_
            refine grown_run (v := .slice ax nx cx) ?_ (Kp.refl _ _) rfl
            have hcell := unhide HCX w hk
            obtain ⟨ρ, hρ, hc, hf, hg⟩ := eval_is a
            rw [hρ] at h18 ⊢
            simp [go_sem, h18, hcell]
          refine steps_cons (fun a w hk hn => ?_) ?_
          · have h1 : a.eval (.tmp 1) = .slice (some ⟨b2, o2, none⟩) M cb := hn.1
            clear hn
            refine wants_plain rfl ?_
            exact grown_move (.tmp 1) rfl h1
          refine steps_cons (fun a w hk hn => ?_) ?_
          · have h5 : a.eval (.tmp 5) = .int .i64 k := hn.1
            clear hn
            refine wants_plain rfl ?_
            exact grown_move (.tmp 5) rfl h5
          refine steps_cons (fun a w hk hn => ?_) ?_
          · have h20 : a.eval (.tmp 20) = .slice (some ⟨b2, o2, none⟩) M cb := hn.1
            have h21 : a.eval (.tmp 21) = .int .i64 k := hn.2.1
            clear hn
            refine wants_plain rfl ?_
            refine grown_run (v := .pointer (some ⟨b2, o2 + k, none⟩)) ?_ (Kp.refl _ _) rfl
            obtain ⟨ρ, hρ, hc, hf, hg⟩ := eval_is a
            rw [hρ] at h20 h21 ⊢
            simp [go_sem, h20, h21, hlt2]
          refine steps_cons (fun a w hk hn => ?_) ?_
          · have h22 : a.eval (.tmp 22) = .pointer (some ⟨b2, o2 + k, none⟩) := hn.1
            clear hn
            refine wants_plain rfl ?_
            refine grown_run (v := .slice ay ny cy) ?_ (Kp.refl _ _) rfl
            have hcell := unhide HCY w hk
            obtain ⟨ρ, hρ, hc, hf, hg⟩ := eval_is a
            rw [hρ] at h22 ⊢
            simp [go_sem, h22, hcell]
          refine steps_cons (fun a w hk hn => ?_) ?_
          · have h19 : a.eval (.tmp 19) = .slice ax nx cx := hn.1
            have h23 : a.eval (.tmp 23) = .slice ay ny cy := hn.2.1
            clear hn
            refine wants_plain rfl ?_
            refine grown_call (f := 39) rfl Tryd.func39 (by kernel_rfl) (by kernel_rfl) ?_
            simp only [List.map_toArray, List.map_cons, List.map_nil, h19, h23]
            refine (samehash_any _ _ X Y S T (unhide HS) (unhide HT') w (unhide HSX w hk) (unhide HSY w hk)).mono ?_
            rintro e w' ⟨rfl, hw⟩
            subst w'
            exact ⟨_, rfl, Kp.refl _ _, congrArg Value.bool (unhide HB1).symm⟩
          refine steps_cons (fun a w hk hn => ?_) ?_
          · have h24 : a.eval (.tmp 24) = .bool bb := hn.1
            clear hn
            refine wants_plain rfl ?_
            refine grown_run (v := .bool (!bb)) ?_ (Kp.refl _ _) rfl
            obtain ⟨ρ, hρ, hc, hf, hg⟩ := eval_is a
            rw [hρ] at h24 ⊢
            simp [go_sem, h24]
          exact trivial
        intro W1 hkW1
        rintro _ rfl
        rintro _ rfl
        rintro _ rfl
        rintro _ rfl
        rintro _ rfl
        rintro _ rfl
        rintro _ rfl
        rintro _ rfl
        rintro _ rfl
        rintro _ rfl
        refine fin_nil ?_
        simp only [Act.put, List.set_cons_zero, List.set_cons_succ, List.setIfInBounds_toArray]
        cases bb
        · have hne : c = false := by
            rw [unhide HC]
            refine decide_eq_false (fun e => ?_)
            have h1 := unhide HBB
            rw [unhide HX, unhide HY, e] at h1
            simp at h1
          subst hne
          go_wp2_with fail
          go_ret
          exact ⟨rfl, ((unhide HKr).trans (kp_drew wr)).trans hkW1⟩
        · have HE : Hid (xs.take (k + 1) = ys.take (k + 1)) := take_step (unhide HT) (by have := unhide HN; omega) (by have := unhide HM; omega) (by
            have h1 := unhide HBB
            rw [← unhide HX, ← unhide HY]
            exact of_decide_eq_true h1.symm)
          go_wp2_with fail
          go_roundw
          case rel => exact ⟨k + 1, by omega, by go_num, unhide HE, ((unhide HKr).trans (kp_drew wr)).trans hkW1⟩
          case measure => simp [intOf]; omega
      · obtain rfl : k = M := by omega
        have hlt2 : ¬ (k : Int) < (k : Int) := by omega
        have hcc : c = true := by
          rw [unhide HC]
          have h1 := unhide HT
          rw [List.take_of_length_le (by have := unhide HN; omega), List.take_of_length_le (by have := unhide HM; omega)] at h1
          exact decide_eq_true h1
        subst hcc
        go_wp2_with fail
        go_ret
        exact ⟨rfl, unhide HKr⟩
  · have hne : ¬ (N : Int) = (M : Int) := by omega
    have hcc : c = false := by
      rw [unhide HC]
      refine decide_eq_false (fun e => hMN ?_)
      rw [unhide HN, unhide HM, e]
    subst hcc
    go_enter Tryd.func50, Tryd.ntmps50
    go_wp2_with fail
    go_ret
    exact ⟨rfl, Kp.refl _ _⟩

set_option maxRecDepth 100000 in
set_option maxHeartbeats 2000000 in
theorem ssame_any (v u : Value) (i j : Int) (ps qs rs ts : List (List Int)) (c : Bool) (hc : c = decide (i = j ∧ ps = rs ∧ qs = ts)) (w : World) (hV : SigV w v i ps qs) (hU : SigV w u j rs ts) :
    Calls Tryd.prog 25 #[v, u] w fun e w' => e = .returned (.bool c) ∧ Kp [] w w' := by
  obtain ⟨ap, np, cp, aq, nq, cq, lp, lq, rfl, hP, hp, hQ, hq, hnp, hnq⟩ := hV.shape
  obtain ⟨ar, nr, cr, as', ns, cs, lr, ls, rfl, hR, hr, hS, hs, hnr, hns⟩ := hU.shape
  clear hnp hnq hnr hns hV hU
  obtain ⟨o1, ho1⟩ : ∃ o : Obj, o = (.cells #[.int .i64 i, .slice ap np cp, .slice aq nq cq] 33) := ⟨_, rfl⟩
  obtain ⟨o2, ho2⟩ : ∃ o : Obj, o = (.cells #[.int .i64 j, .slice ar nr cr, .slice as' ns cs] 33) := ⟨_, rfl⟩
  have K1 : Kp [] w ((w.alloc o1).alloc o2) := ((Kp.refl [] w).alloc o1).alloc o2
  have G1 : ((w.alloc o1).alloc o2).heap[w.heap.size]? = some o1 := heap_alloc2_old w o1 o2
  have G2 : ((w.alloc o1).alloc o2).heap[w.heap.size + 1]? = some o2 := heap_alloc2_new w o1 o2
  obtain ⟨c1, h1⟩ : ∃ c, c = decide (ps = rs) := ⟨_, rfl⟩
  obtain ⟨c2, h2⟩ : ∃ c, c = decide (qs = ts) := ⟨_, rfl⟩
  have H1 := hide (sameLists_any _ _ lp lr ps rs hp hr c1 h1 _ (hP.kept K1) (hR.kept K1))
  have H2 := hide (fun w' (k' : Kp [] ((w.alloc o1).alloc o2) w') => sameLists_any _ _ lq ls qs ts hq hs c2 h2 w' (hQ.kept (K1.trans k')) (hS.kept (K1.trans k')))
  have hcc : c = (decide (i = j) && (c1 && c2)) := by rw [hc, h1, h2, Bool.decide_and, Bool.decide_and]
  rw [ho1] at G1 H1 H2 K1
  rw [ho2] at G2 H1 H2 K1 G1
  rw [ho1] at G2
  have HG1 := hide G1
  have HG2 := hide G2
  have HK1 := hide K1
  clear hc h1 h2 hP hQ hR hS hp hq hr hs ho1 ho2 G1 G2 K1
  by_cases hij : i = j
  · subst hij
    simp only [decide_true, Bool.true_and] at hcc
    cases c1
    · obtain rfl : c = false := hcc
      clear H2 HG1 HG2
      go_enter Tryd.func25, Tryd.ntmps25
      go_wp2_with fail
      refine (unhide H1).mono ?_
      rintro ee w2 ⟨rfl, K2⟩
      have HK2 := hide ((unhide HK1).trans K2)
      clear H1 K2
      go_wp2_with fail
      go_ret
      exact ⟨rfl, unhide HK2⟩
    · simp only [Bool.true_and] at hcc
      subst hcc
      go_enter Tryd.func25, Tryd.ntmps25
      go_wp2_with fail
      refine (unhide H1).mono ?_
      rintro ee w2 ⟨rfl, K2⟩
      have HK2 := hide ((unhide HK1).trans K2)
      have HC2 := hide (unhide H2 w2 K2)
      have e1 : w2.cell? ⟨w.heap.size, 2, none⟩ = some (.slice aq nq cq) := by rw [cell_of_row w2 w.heap.size 2 _ _ _ (K2.heap (unhide HG1) (by simp))]; rfl
      have e2 : w2.cell? ⟨w.heap.size + 1, 2, none⟩ = some (.slice as' ns cs) := by rw [cell_of_row w2 (w.heap.size + 1) 2 _ _ _ (K2.heap (unhide HG2) (by simp))]; rfl
      clear H1 H2 K2 HG1 HG2 HK1
      go_wp2_with fail
      refine (unhide HC2).mono ?_
      rintro ee w3 ⟨rfl, K3⟩
      have HK3 := hide ((unhide HK2).trans K3)
      clear HC2 K3 HK2
      go_wp2_with fail
      go_ret
      exact ⟨rfl, unhide HK3⟩
  · have hij2 : (i == j) = false := beq_eq_false_iff_ne.2 hij
    simp only [hij, decide_false, Bool.false_and] at hcc
    subst hcc
    clear H1 H2 HG1 HG2
    go_enter Tryd.func25, Tryd.ntmps25
    go_wp2_with fail
    go_ret
    exact ⟨rfl, unhide HK1⟩
end Go.Proofs.YtdioaohejoflcaaDoor

/-
  The contracts of the reference's Secret, Shown, Public and Sign.
-/
namespace Go.Proofs.YtdioaohejoflcaaDoor
open Go.RowKit

theorem lists3 {w : World} {v u t : Value} {bs cs ds : List Int} (h : Sl w v bs) (hB : Bs bs) (k : Sl w u cs) (hC : Bs cs) (j : Sl w t ds) (hD : Bs ds) : Lists (w.alloc (.cells #[v, u, t] 24)) (.slice (some ⟨w.heap.size, 0, none⟩) 3 3) [(v, bs), (u, cs), (t, ds)] :=
  lists_of_block (l := [(v, bs), (u, cs), (t, ds)]) (t := 24) (fr := (0, 0)) (heap_alloc_new w _) (by simp) (fun x hx => by
    rcases (by simpa using hx : x = (v, bs) ∨ x = (u, cs) ∨ x = (t, ds)) with rfl | rfl | rfl
    · exact ⟨h.kept ((Kp.refl [] w).alloc _) (by simp), hB⟩
    · exact ⟨k.kept ((Kp.refl [] w).alloc _) (by simp), hC⟩
    · exact ⟨j.kept ((Kp.refl [] w).alloc _) (by simp), hD⟩)
theorem cat3 (v u t : Value) (bs cs ds : List Int) : cat [(v, bs), (u, cs), (t, ds)] = bs ++ (cs ++ ds) := by simp [cat]
theorem row_nil (w : World) (base : Nat) : Row w base (.slice none 0 0) [] := ⟨rfl, .inl ⟨rfl, rfl⟩⟩

set_option maxHeartbeats 400000 in
theorem refnum_any (n : Int) (w : World) :
    Calls Tryd.prog 70 #[.slice none 0 0, .int .u32 n] w fun e w' => ∃ ao m c, e = .returned (.slice ao m c) ∧ Row w' w.heap.size (.slice ao m c) (be4 n) ∧ Kp [] w w' := by
  obtain ⟨cs, hcs⟩ : ∃ cs, cs = be4 n := ⟨_, rfl⟩
  have hl : cs.length = 4 := by rw [hcs]; rfl
  have hsl : Sl (w.alloc (.cells #[.int .u8 (n / 16777216 % 256), .int .u8 (n / 65536 % 256), .int .u8 (n / 256 % 256), .int .u8 (n % 256)] 5)) (.slice (some ⟨w.heap.size, 0, none⟩) 4 4) cs := by
    rw [hcs]; exact Sl.block (cs := be4 n) (t := 5) (heap_alloc_new w _) (by simp [be4, maxLen])
  rw [← hcs]
  clear hcs
  go_enter Tryd.func70, Tryd.ntmps70
  go_wp2_with (at_builtin; refine wpList_append_row rfl _ _ rfl w.heap.size (.slice none 0 0) [] rfl (row_nil _ _) _ cs rfl hsl (by simp; omega) (by simp) ?_; intro ao m c w1 r1 s1)
  go_ret
  exact ⟨ao, m, c, rfl, r1, ((Kp.refl [] w).alloc _).then s1.1 (by simp [Value.ownBlock])⟩

set_option maxRecDepth 100000 in
set_option maxHeartbeats 1000000 in
theorem refsecret_any (vb : Value) (bs : List Int) (key bit side : Int) (r : List Int) (hr : r = secP bs key bit side) (w : World) (hS : Sl w vb bs) (hB : Bs bs) (hl : bs.length ≤ 1000) :
    Calls Tryd.prog 63 #[vb, .int .i64 key, .int .i64 bit, .int .i64 side] w fun e w' => ∃ ao m c, e = .returned (.slice ao m c) ∧ Row w' w.heap.size (.slice ao m c) r ∧ Kp [] w w' := by
  have HB := hide hB
  have HS := hide hS
  have hbe : be4 (key % 4294967296) = be4 key := by
    unfold be4
    congr 1
    · omega
    · congr 1
      · omega
      · congr 1
        · omega
        · congr 1; omega
  have HBE := hide hbe
  have HR := hide hr
  obtain ⟨ab, cb, hvb, _⟩ := hS
  obtain ⟨nb, hnb⟩ : ∃ n, n = bs.length := ⟨_, rfl⟩
  rw [← hnb] at hvb
  subst hvb
  clear hr hnb hB hbe
  go_enter Tryd.func63, Tryd.ntmps63
  go_wp2_with fail
  refine (refnum_any _ _).mono ?_
  rintro ee w1 ⟨a1, m1, c1, rfl, R1, K1⟩
  rw [unhide HBE] at R1
  have HR1 := hide R1
  have HK1 := hide K1
  clear HBE R1 K1
  go_wp2_with fail
  obtain ⟨ob, hob⟩ : ∃ o : Obj, o = (.cells #[.int .u8 (bit % 256), .int .u8 (side % 256)] 5) := ⟨_, rfl⟩
  have hP : Sl (w1.alloc ob) (.slice (some ⟨w1.heap.size, 0, none⟩) 2 2) [bit % 256, side % 256] := by
    rw [hob]; exact Sl.block (cs := [bit % 256, side % 256]) (t := 5) (fr := (0, 0)) (heap_alloc_new w1 _) (by simp [maxLen])
  have hPB : Bs [bit % 256, side % 256] := by
    intro b hb
    simp only [List.mem_cons, List.not_mem_nil, or_false] at hb
    rcases hb with rfl | rfl <;> omega
  have Ka := (Kp.refl [] w1).alloc ob
  have HL := lists3 (((unhide HS).kept (unhide HK1) (by simp)).kept Ka (by simp)) (unhide HB) ((unhide HR1).sl.kept Ka (by simp)) (be4_bs key) hP hPB
  rw [show (w1.alloc ob).heap.size = w1.heap.size + 1 by simp] at HL
  have HK := hide ((unhide HK1).trans (Ka.alloc (.cells #[.slice ab nb cb, .slice a1 m1 c1, .slice (some ⟨w1.heap.size, 0, none⟩) 2 2] 24)))
  rw [← hob]
  refine (reftagged_any 10 _ _ r (by rw [unhide HR, cat3]; rfl) _ HL (by omega) (by omega) (by simp) ?_).mono ?_
  · intro x hx
    rcases (by simpa using hx : x = (Value.slice ab nb cb, bs) ∨ x = (Value.slice a1 m1 c1, be4 key) ∨ x = (Value.slice (some ⟨w1.heap.size, 0, none⟩) 2 2, [bit % 256, side % 256])) with rfl | rfl | rfl
    · simp; omega
    · simp [be4]
    · simp
  rintro ee w2 ⟨ao2, m2, c2, rfl, R2, K2⟩
  have HR2 := hide (row_new R2 (unhide HK))
  have HK2 := hide ((unhide HK).trans K2)
  clear HL HK HR hob R2 K2 Ka hP hPB
  go_wp2_with fail
  go_ret
  exact ⟨ao2, m2, c2, rfl, unhide HR2, unhide HK2⟩

set_option maxRecDepth 100000 in
set_option maxHeartbeats 1000000 in
theorem refshown_any (vb : Value) (bs : List Int) (key bit side : Int) (r : List Int) (hr : r = shnP bs key bit side) (w : World) (hS : Sl w vb bs) (hB : Bs bs) (hl : bs.length ≤ 1000) :
    Calls Tryd.prog 54 #[vb, .int .i64 key, .int .i64 bit, .int .i64 side] w fun e w' => ∃ ao m c, e = .returned (.slice ao m c) ∧ Row w' w.heap.size (.slice ao m c) r ∧ Kp [] w w' := by
  obtain ⟨q, hq⟩ : ∃ q, q = secP bs key bit side := ⟨_, rfl⟩
  have HC := hide (refsecret_any vb bs key bit side q hq w hS hB hl)
  have HQL : Hid (q.length = 32) := by rw [hq]; exact secP_len _ _ _ _
  have HQB : Hid (Bs q) := by rw [hq]; exact sha_bs _
  have HR : Hid (r = sha (11 :: q)) := by rw [hr, hq]; rfl
  obtain ⟨ab, cb, hvb, _⟩ := hS
  obtain ⟨nb, hnb⟩ : ∃ n, n = bs.length := ⟨_, rfl⟩
  rw [← hnb] at hvb
  subst hvb
  clear hr hnb hB hq
  go_enter Tryd.func54, Tryd.ntmps54
  go_wp2_with fail
  refine (unhide HC).mono ?_
  rintro ee w1 ⟨a1, m1, c1, rfl, R1, K1⟩
  have HL := hide (lists1 R1.sl (unhide HQB))
  have HK := hide (K1.trans ((Kp.refl [] w1).alloc (.cells #[.slice a1 m1 c1] 24)))
  clear HC R1 K1
  go_wp2_with fail
  refine (reftagged_any 11 _ _ r (by rw [unhide HR, cat1]) _ (unhide HL) (by omega) (by omega) (by simp) (by have := unhide HQL; simp; omega)).mono ?_
  rintro ee w2 ⟨ao2, m2, c2, rfl, R2, K2⟩
  have HR2 := hide (row_new R2 (unhide HK))
  have HK2 := hide ((unhide HK).trans K2)
  clear HL HK HR R2 K2
  go_wp2_with fail
  go_ret
  exact ⟨ao2, m2, c2, rfl, unhide HR2, unhide HK2⟩
end Go.Proofs.YtdioaohejoflcaaDoor

/-
  The contract of the reference's Public.
-/
namespace Go.Proofs.YtdioaohejoflcaaDoor
open Go.RowKit

theorem flat_two (bs : List Int) (key : Int) (k : Nat) : (ptsP bs key noneC (2 * (k + 1))).flatten = (ptsP bs key noneC (2 * k)).flatten ++ shnP bs key (k : Nat) 0 ++ shnP bs key (k : Nat) 1 := by
  rw [show 2 * (k + 1) = 2 * k + 1 + 1 by omega, ptsP_succ, ptsP_succ, List.flatten_append, List.flatten_append]
  have e0 := ptP_at bs key noneC k 0 (by omega)
  have e1 := ptP_at bs key noneC k 1 (by omega)
  rw [Nat.add_zero] at e0
  rw [e0, e1]
  simp [noneC]
theorem flat_len (bs : List Int) (key : Int) (c : Nat → Nat → Bool) (n : Nat) : (ptsP bs key c n).flatten.length = 32 * n := by
  induction n with
  | zero => rfl
  | succ n ih => rw [ptsP_succ, List.flatten_append, List.length_append, ih]; simp [ptP_len]; omega

set_option maxRecDepth 100000 in
set_option maxHeartbeats 1000000 in
theorem refpublic_any (vb : Value) (bs : List Int) (key : Int) (r : List Int) (hr : r = pubP bs key) (w : World) (hS : Sl w vb bs) (hB : Bs bs) (hl : bs.length ≤ 1000) :
    Calls Tryd.prog 28 #[vb, .int .i64 key] w fun e w' => ∃ ao m c, e = .returned (.slice ao m c) ∧ Row w' w.heap.size (.slice ao m c) r ∧ Kp [] w w' := by
  have HR := hide hr
  have HS := hide hS
  have HB := hide hB
  obtain ⟨ab, cb, hvb, _⟩ := hS
  obtain ⟨nb, hnb⟩ : ∃ n, n = bs.length := ⟨_, rfl⟩
  rw [← hnb] at hvb
  subst hvb
  clear hr hnb hB
  go_enter Tryd.func28, Tryd.ntmps28
  go_wp2_with fail
  go_loopw [5, 6] (fun v i wr => ∃ (k m c : Nat) (ao : Option Addr), k ≤ 32 ∧ v = .slice ao m c ∧ i = .int .i64 k ∧ Row wr w.heap.size v (ptsP bs key noneC (2 * k)).flatten ∧ Kp [] w wr) (fun _ i _ => 32 - (intOf i).toNat)
  case atStart => exact ⟨0, 0, 0, none, by omega, rfl, rfl, row_nil _ _, Kp.refl _ _⟩
  case round =>
    obtain ⟨k, m, c, ao, hk, rfl, rfl, Rr, Kr⟩ := hrel
    have HRr := hide Rr
    have HKr := hide Kr
    clear Rr Kr
    by_cases hlt : k < 32
    · have hlt2 : (k : Int) < 32 := by omega
      obtain ⟨fl, hfl⟩ : ∃ fl, fl = (ptsP bs key noneC (2 * k)).flatten := ⟨_, rfl⟩
      obtain ⟨r0, hr0⟩ : ∃ r, r = shnP bs key (k : Nat) 0 := ⟨_, rfl⟩
      obtain ⟨r1, hr1⟩ : ∃ r, r = shnP bs key (k : Nat) 1 := ⟨_, rfl⟩
      have HE : Hid ((ptsP bs key noneC (2 * (k + 1))).flatten = fl ++ r0 ++ r1) := by rw [hfl, hr0, hr1]; exact flat_two bs key k
      have hfll : fl.length ≤ 2048 := by rw [hfl, flat_len]; omega
      have hr0l : r0.length = 32 := by rw [hr0]; exact shnP_len _ _ _ _
      have hr1l : r1.length = 32 := by rw [hr1]; exact shnP_len _ _ _ _
      rw [← hfl] at HRr
      have HR0 := hide hr0
      have HR1 := hide hr1
      clear hfl hr0 hr1
      go_wp2_with fail
      refine (refshown_any _ bs key (k : Nat) 0 r0 (unhide HR0) wr ((unhide HS).kept (unhide HKr) (by simp)) (unhide HB) hl).mono ?_
      rintro ee w2 ⟨a2, m2, c2, rfl, R2, K2⟩
      have HR2 := hide R2
      have HK2 := hide K2
      clear R2 K2
      go_wp2_with (at_builtin; refine wpList_append_row rfl (.tmp 11) (.tmp 15) rfl w.heap.size _ fl rfl ((unhide HRr).kept (unhide HK2) (by simp)) _ r0 rfl (unhide HR2).sl (by omega) (by have := (unhide HKr).size; have := (unhide HK2).size; omega) ?_; intro ao3 m3 c3 w3 R3 s3)
      have HK3 := hide ((unhide HRr).step (unhide HKr) (s3.after (unhide HK2)))
      have HR3 := hide R3
      clear R3 s3 HR2 HK2 HRr HKr
      refine (refshown_any _ bs key (k : Nat) 1 r1 (unhide HR1) w3 ((unhide HS).kept (unhide HK3) (by simp)) (unhide HB) hl).mono ?_
      rintro ee w4 ⟨a4, m4, c4, rfl, R4, K4⟩
      have HR4 := hide R4
      have HK4 := hide K4
      clear R4 K4
      go_wp2_with (at_builtin; refine wpList_append_row rfl (.tmp 16) (.tmp 20) rfl w.heap.size _ (fl ++ r0) rfl ((unhide HR3).kept (unhide HK4) (by simp)) _ r1 rfl (unhide HR4).sl (by rw [List.length_append]; omega) (by have := (unhide HK3).size; have := (unhide HK4).size; omega) ?_; intro ao5 m5 c5 w5 R5 s5)
      go_roundw
      case rel => exact ⟨k + 1, m5, c5, ao5, by omega, rfl, by go_num, by rw [unhide HE]; exact R5, (unhide HR3).step (unhide HK3) (s5.after (unhide HK4))⟩
      case measure => simp [intOf]; omega
    · obtain rfl : k = 32 := by omega
      obtain ⟨fl, hfl⟩ : ∃ fl, fl = (ptsP bs key noneC 64).flatten := ⟨_, rfl⟩
      have hfll : fl.length ≤ 2048 := by rw [hfl, flat_len]; omega
      have hFB : Hid (Bs fl) := by
        rw [hfl]
        intro b hb
        obtain ⟨x, hx, hb⟩ := List.mem_flatten.1 hb
        unfold ptsP at hx
        obtain ⟨i, _, rfl⟩ := List.mem_map.1 hx
        exact ptP_bs _ _ _ _ b hb
      have hrr : Hid (Row wr w.heap.size (.slice ao m c) fl) := by rw [hfl]; exact unhide HRr
      have HR2 : Hid (r = sha (12 :: fl)) := by rw [unhide HR, hfl]; rfl
      have HL := hide (lists1 (unhide hrr).sl (unhide hFB))
      have HK := hide ((unhide HKr).trans ((Kp.refl [] wr).alloc (.cells #[.slice ao m c] 24)))
      clear hfl HRr HKr HR hrr
      go_wp2_with fail
      refine (reftagged_any 12 _ _ r (by rw [unhide HR2, cat1]) _ (unhide HL) (by omega) (by omega) (by simp) (by simp; omega)).mono ?_
      rintro ee w2 ⟨ao2, m2, c2, rfl, R2, K2⟩
      have HR3 := hide (row_new R2 (unhide HK))
      have HK2 := hide ((unhide HK).trans K2)
      clear HL HK HR2 R2 K2
      go_wp2_with fail
      go_ret
      exact ⟨ao2, m2, c2, rfl, unhide HR3, unhide HK2⟩
end Go.Proofs.YtdioaohejoflcaaDoor

/-
  The contract of the reference's Sign.
-/
namespace Go.Proofs.YtdioaohejoflcaaDoor
open Go.RowKit

theorem acc_nil (w : World) : Acc w [] (.slice none 0 0) w := ⟨[], ⟨⟨rfl, .inl ⟨rfl, rfl⟩⟩, fun x hx => by cases hx⟩, rfl, Kp.refl _ _⟩

set_option maxRecDepth 100000 in
set_option maxHeartbeats 2000000 in
theorem refsign_any (vb : Value) (bs : List Int) (key : Int) (vm : Value) (ms : List Int) (d : Int) (hd : d = digP ms) (w : World) (hS : Sl w vb bs) (hB : Bs bs) (hl : bs.length ≤ 1000) (hM : Sl w vm ms) (hMB : Bs ms) (hml : ms.length ≤ 1000) :
    Calls Tryd.prog 36 #[vb, .int .i64 key, vm] w fun e w' => ∃ ao m c, e = .returned (.slice ao m c) ∧ Acc w (sgnP bs key d) (.slice ao m c) w' := by
  have h0 : 0 ≤ d := by rw [hd]; exact (digP_bd ms).1
  have HD := hide (refdigest_any vm ms d hd w hM hMB (by omega))
  have HS := hide hS
  have HB := hide hB
  obtain ⟨ab, cb, hvb, _⟩ := hS
  obtain ⟨nb, hnb⟩ : ∃ n, n = bs.length := ⟨_, rfl⟩
  rw [← hnb] at hvb
  subst hvb
  obtain ⟨am, cm, hvm, _⟩ := hM
  obtain ⟨nm, hnm⟩ : ∃ n, n = ms.length := ⟨_, rfl⟩
  rw [← hnm] at hvm
  subst hvm
  clear hB hnb hnm hMB hd
  go_enter Tryd.func36, Tryd.ntmps36
  go_wp2_with fail
  refine (unhide HD).mono ?_
  rintro ee w2 ⟨rfl, K2⟩
  have A2 : Hid (Acc w [] (.slice none 0 0) w2) := (acc_nil w).mid K2
  clear HD K2
  go_wp2_with fail
  go_loopw [8, 9] (fun v i wr => ∃ (k m cc : Nat) (ao : Option Addr), k ≤ 32 ∧ v = .slice ao m cc ∧ i = .int .i64 k ∧ Acc w (ptsP bs key (digC d) (2 * k)) v wr) (fun _ i _ => 32 - (intOf i).toNat)
  case atStart => exact ⟨0, 0, 0, none, by omega, rfl, rfl, unhide A2⟩
  case round =>
    obtain ⟨k, m, cc, ao, hk, rfl, rfl, Ar⟩ := hrel
    clear A2
    have HA := hide Ar
    clear Ar
    by_cases hlt : k < 32
    · have hlt2 : (k : Int) < 32 := by omega
      have hj1 : (k : Int) ≤ 31 := by omega
      have hj2 : (31 - (k : Int)).toNat = 31 - k := by omega
      have hd0 : 0 ≤ d / 2 ^ (31 - k) := Int.ediv_nonneg h0 (Int.le_of_lt (Int.pow_pos (by omega)))
      have ha := and_one _ hd0
      rw [← sd_val] at ha
      obtain ⟨t, ht⟩ : ∃ t, t = sdP d k := ⟨_, rfl⟩
      rw [← ht] at ha
      have hC0 : Hid (digC d k 0 = (t == 0)) := by rw [ht]; rfl
      have hC1 : Hid (digC d k 1 = (t == 1)) := by rw [ht]; rfl
      have htl : t < 2 := by rw [ht]; exact sdP_lt d k
      clear ht hd0
      obtain ⟨wo, hwo⟩ : ∃ wo, wo = wr := ⟨_, rfl⟩
      subst hwo
      go_wp2_with fail
      go_loopw [8, 10] (fun v i wi => ∃ (s m cc : Nat) (ao : Option Addr), s ≤ 2 ∧ v = .slice ao m cc ∧ i = .int .i64 s ∧ Acc w (ptsP bs key (digC d) (2 * k + s)) v wi) (fun _ i _ => 2 - (intOf i).toNat)
      case atStart => exact ⟨0, m, cc, ao, by omega, rfl, rfl, unhide HA⟩
      case round =>
        clear HA
        obtain ⟨s, m2, cc2, ao2, hs, rfl, rfl, Ai⟩ := hrel
        have HI := hide Ai
        clear Ai
        obtain ⟨wi, hwi⟩ : ∃ wi, wi = wr := ⟨_, rfl⟩
        subst hwi
        rcases (by omega : s = 0 ∨ s = 1 ∨ s = 2) with rfl | rfl | rfl
        · rcases (by omega : t = 0 ∨ t = 1) with rfl | rfl
          · have hr0 := ptP_at bs key (digC d) k 0 (by omega)
            rw [show digC d k 0 = true from unhide hC0] at hr0
            obtain ⟨r, hr⟩ : ∃ r, r = ptP bs key (digC d) (2 * k + 0) := ⟨_, rfl⟩
            have HRB : Hid (Bs r) := by rw [hr]; exact ptP_bs _ _ _ _
            have HE : Hid (ptsP bs key (digC d) (2 * k + 0 + 1) = ptsP bs key (digC d) (2 * k + 0) ++ [r]) := by rw [hr]; exact ptsP_succ _ _ _ _
            have HLN : Hid ((ptsP bs key (digC d) (2 * k + 0)).length ≤ 1000000) := by rw [ptsP_len]; show 2 * k + 0 ≤ 1000000; omega
            rw [← hr] at hr0
            have HC := hide (refsecret_any (.slice ab nb cb) bs key k 0 r hr0 wi ((unhide HS).kept (unhide HI).kp (by simp)) (unhide HB) hl)
            clear hr hr0
            go_wp2_with fail
            refine (unhide HC).mono ?_
            rintro ee w4 ⟨a4, m4, c4, rfl, R4, K4⟩
            have HR4 := hide R4
            have HK4 := hide K4
            clear R4 K4 HC
            go_wp2_with (at_builtin; refine wpList_acc rfl (.tmp 30) (.tmp 36) rfl _ _ rfl (unhide HI) (unhide HLN) _ r (unhide HK4) (unhide HR4) (unhide HRB) rfl ?_; intro ao5 m5 c5 w5 A5)
            go_roundw
            case rel => exact ⟨0 + 1, m5, c5, ao5, by omega, rfl, by go_num, by have e := unhide HE; rw [← e] at A5; exact A5⟩
            case measure => simp [intOf]
          · have hr0 := ptP_at bs key (digC d) k 0 (by omega)
            rw [show digC d k 0 = false from unhide hC0] at hr0
            obtain ⟨r, hr⟩ : ∃ r, r = ptP bs key (digC d) (2 * k + 0) := ⟨_, rfl⟩
            have HRB : Hid (Bs r) := by rw [hr]; exact ptP_bs _ _ _ _
            have HE : Hid (ptsP bs key (digC d) (2 * k + 0 + 1) = ptsP bs key (digC d) (2 * k + 0) ++ [r]) := by rw [hr]; exact ptsP_succ _ _ _ _
            have HLN : Hid ((ptsP bs key (digC d) (2 * k + 0)).length ≤ 1000000) := by rw [ptsP_len]; show 2 * k + 0 ≤ 1000000; omega
            rw [← hr] at hr0
            have HC := hide (refshown_any (.slice ab nb cb) bs key k 0 r hr0 wi ((unhide HS).kept (unhide HI).kp (by simp)) (unhide HB) hl)
            clear hr hr0
            go_wp2_with fail
            refine (unhide HC).mono ?_
            rintro ee w4 ⟨a4, m4, c4, rfl, R4, K4⟩
            have HR4 := hide R4
            have HK4 := hide K4
            clear R4 K4 HC
            go_wp2_with (at_builtin; refine wpList_acc rfl (.tmp 38) (.tmp 44) rfl _ _ rfl (unhide HI) (unhide HLN) _ r (unhide HK4) (unhide HR4) (unhide HRB) rfl ?_; intro ao5 m5 c5 w5 A5)
            go_roundw
            case rel => exact ⟨0 + 1, m5, c5, ao5, by omega, rfl, by go_num, by have e := unhide HE; rw [← e] at A5; exact A5⟩
            case measure => simp [intOf]
        · rcases (by omega : t = 0 ∨ t = 1) with rfl | rfl
          · have hr0 := ptP_at bs key (digC d) k 1 (by omega)
            rw [show digC d k 1 = false from unhide hC1] at hr0
            obtain ⟨r, hr⟩ : ∃ r, r = ptP bs key (digC d) (2 * k + 1) := ⟨_, rfl⟩
            have HRB : Hid (Bs r) := by rw [hr]; exact ptP_bs _ _ _ _
            have HE : Hid (ptsP bs key (digC d) (2 * k + 1 + 1) = ptsP bs key (digC d) (2 * k + 1) ++ [r]) := by rw [hr]; exact ptsP_succ _ _ _ _
            have HLN : Hid ((ptsP bs key (digC d) (2 * k + 1)).length ≤ 1000000) := by rw [ptsP_len]; show 2 * k + 1 ≤ 1000000; omega
            rw [← hr] at hr0
            have HC := hide (refshown_any (.slice ab nb cb) bs key k 1 r hr0 wi ((unhide HS).kept (unhide HI).kp (by simp)) (unhide HB) hl)
            clear hr hr0
            go_wp2_with fail
            refine (unhide HC).mono ?_
            rintro ee w4 ⟨a4, m4, c4, rfl, R4, K4⟩
            have HR4 := hide R4
            have HK4 := hide K4
            clear R4 K4 HC
            go_wp2_with (at_builtin; refine wpList_acc rfl (.tmp 38) (.tmp 44) rfl _ _ rfl (unhide HI) (unhide HLN) _ r (unhide HK4) (unhide HR4) (unhide HRB) rfl ?_; intro ao5 m5 c5 w5 A5)
            go_roundw
            case rel => exact ⟨1 + 1, m5, c5, ao5, by omega, rfl, by go_num, by have e := unhide HE; rw [← e] at A5; exact A5⟩
            case measure => simp [intOf]
          · have hr0 := ptP_at bs key (digC d) k 1 (by omega)
            rw [show digC d k 1 = true from unhide hC1] at hr0
            obtain ⟨r, hr⟩ : ∃ r, r = ptP bs key (digC d) (2 * k + 1) := ⟨_, rfl⟩
            have HRB : Hid (Bs r) := by rw [hr]; exact ptP_bs _ _ _ _
            have HE : Hid (ptsP bs key (digC d) (2 * k + 1 + 1) = ptsP bs key (digC d) (2 * k + 1) ++ [r]) := by rw [hr]; exact ptsP_succ _ _ _ _
            have HLN : Hid ((ptsP bs key (digC d) (2 * k + 1)).length ≤ 1000000) := by rw [ptsP_len]; show 2 * k + 1 ≤ 1000000; omega
            rw [← hr] at hr0
            have HC := hide (refsecret_any (.slice ab nb cb) bs key k 1 r hr0 wi ((unhide HS).kept (unhide HI).kp (by simp)) (unhide HB) hl)
            clear hr hr0
            go_wp2_with fail
            refine (unhide HC).mono ?_
            rintro ee w4 ⟨a4, m4, c4, rfl, R4, K4⟩
            have HR4 := hide R4
            have HK4 := hide K4
            clear R4 K4 HC
            go_wp2_with (at_builtin; refine wpList_acc rfl (.tmp 30) (.tmp 36) rfl _ _ rfl (unhide HI) (unhide HLN) _ r (unhide HK4) (unhide HR4) (unhide HRB) rfl ?_; intro ao5 m5 c5 w5 A5)
            go_roundw
            case rel => exact ⟨1 + 1, m5, c5, ao5, by omega, rfl, by go_num, by have e := unhide HE; rw [← e] at A5; exact A5⟩
            case measure => simp [intOf]
        · go_wp2_with fail
          go_roundw
          case rel => exact ⟨k + 1, m2, cc2, ao2, by omega, rfl, by go_num, unhide HI⟩
          case measure => simp [intOf]; omega
    · obtain rfl : k = 32 := by omega
      go_wp2_with fail
      go_ret
      exact ⟨ao, m, cc, rfl, unhide HA⟩
end Go.Proofs.YtdioaohejoflcaaDoor

/-
  The contract of the reference's Root.
-/
namespace Go.Proofs.YtdioaohejoflcaaDoor
open Go.RowKit

theorem rts_take (d : Int) (ls : List (List Int)) (k : Nat) (h : k < ls.length) : ((rtsP d ls).take (k + 1)).flatten = ((rtsP d ls).take k).flatten ++ rtP d k ls[k] := by
  rw [List.take_succ_eq_append_getElem (by rw [rtsP_len]; exact h), List.flatten_append]
  simp [rtsP]
theorem rts_take_len (d : Int) (ls : List (List Int)) (k : Nat) (hl : ls.length = 64) (hg : ∀ i (h : i < ls.length), i < k → ls[i].length = 32) (hk : k ≤ 64) : ((rtsP d ls).take k).flatten.length ≤ 32 * k := by
  induction k with
  | zero => simp
  | succ k ih =>
    rw [rts_take d ls k (by omega), List.length_append]
    have h1 := ih (fun i h h' => hg i h (by omega)) (by omega)
    have h2 : (rtP d k (ls[k]'(by omega))).length = 32 := by
      unfold rtP
      split
      · exact sha_len _
      · exact hg k (by omega) (by omega)
    omega
theorem rtP_bs {d : Int} {i : Nat} {x : List Int} (h : Bs x) : Bs (rtP d i x) := by
  unfold rtP; split
  · exact sha_bs _
  · exact h

set_option maxRecDepth 100000 in
set_option maxHeartbeats 2000000 in
theorem refroot_any (vm : Value) (ms : List Int) (vl : Value) (l : List (Value × List Int)) (d : Int) (b : Bool) (r : List Int) (hd : d = digP ms) (hb : b = areP (l.map (·.2))) (hr : r = rootP d (l.map (·.2))) (w : World) (hM : Sl w vm ms) (hMB : Bs ms) (hml : ms.length ≤ 1000) (hL : Lists w vl l) :
    Calls Tryd.prog 53 #[vm, vl] w fun e w' => ∃ v, e = .returned (.tuple #[v, .bool b]) ∧ Rooted b r w.heap.size v w' ∧ Kp [] w w' := by
  have h0 : 0 ≤ d := by rw [hd]; exact (digP_bd ms).1
  have HD := hide (refdigest_any vm ms d hd w hM hMB (by omega))
  have hBl := hL.bs
  obtain ⟨al, cl, hvl, hll, hcell⟩ := hL
  subst hvl
  obtain ⟨am, cm, hvm, hj⟩ := hM
  clear hj
  obtain ⟨nm, hnm⟩ : ∃ n, n = ms.length := ⟨_, rfl⟩
  rw [← hnm] at hvm
  subst hvm
  clear hMB hd hnm
  obtain ⟨ls, hls⟩ : ∃ ls, ls = l.map (·.2) := ⟨_, rfl⟩
  rw [← hls] at hb hr
  have HR := hide hr
  have HBb := hide hb
  have HBl : Hid (∀ x ∈ ls, Bs x) := by rw [hls]; intro x hx; obtain ⟨y, hy, rfl⟩ := List.mem_map.1 hx; exact hBl y hy
  have HC : Hid (∀ i (h : i < ls.length), ∃ b off v, al = some ⟨b, off, none⟩ ∧ w.cell? ⟨b, off + i, none⟩ = some v ∧ Sl w v ls[i]) := by
    intro i hi
    have hil : i < l.length := by rw [hls] at hi; simpa using hi
    obtain ⟨b', o', e, h1, h2, _⟩ := hcell i hil
    refine ⟨b', o', l[i].1, e, h1, ?_⟩
    have : ls[i] = l[i].2 := by
      have h1 : ls[i]? = (l.map (·.2))[i]? := by rw [hls]
      rw [List.getElem?_eq_getElem hi, List.getElem?_map, List.getElem?_eq_getElem hil] at h1
      exact Option.some.inj h1
    rw [this]; exact h2
  have hlen : l.length = ls.length := by rw [hls]; simp
  rw [hlen] at hll ⊢
  clear hr hb hBl hcell hls hlen
  by_cases h64 : ls.length = 64
  · have H64 := hide h64
    rw [h64]
    clear h64 hll
    go_enter Tryd.func53, Tryd.ntmps53
    go_wp2_with fail
    refine (unhide HD).mono ?_
    rintro ee w2 ⟨rfl, K2⟩
    have HK2 := hide K2
    clear HD K2
    go_wp2_with fail
    go_loopw [7, 8] (fun v i wr => ∃ (k m c : Nat) (ao : Option Addr), k ≤ 64 ∧ v = .slice ao m c ∧ i = .int .i64 k ∧ Row wr w.heap.size v ((rtsP d ls).take k).flatten ∧ (∀ i (h : i < ls.length), i < k → ls[i].length = 32) ∧ Kp [] w wr) (fun _ i _ => 64 - (intOf i).toNat)
    case atStart => exact ⟨0, 0, 0, none, by omega, rfl, rfl, row_nil _ _, (fun i h h' => by omega), unhide HK2⟩
    case round =>
      obtain ⟨k, m, c, ao, hk, rfl, rfl, Rr, hgood, Kr⟩ := hrel
      have HRr := hide Rr
      have HGo := hide hgood
      have HKr := hide Kr
      clear Rr hgood Kr HK2
      by_cases hlt : k < 64
      · have hlt2 : (k : Int) < 64 := by omega
        have hkl : k < ls.length := by have := unhide H64; omega
        obtain ⟨b', o', v, rfl, hc, hS⟩ := unhide HC k hkl
        have hcw := (unhide HKr).cell hc (by simp)
        have hSw := hS.kept (unhide HKr) (by simp)
        have HE := hide (rts_take d ls k hkl)
        have hfl := rts_take_len d ls k (unhide H64) (unhide HGo) hk
        have hBx := unhide HBl ls[k] (List.getElem_mem hkl)
        obtain ⟨fl, hfle⟩ : ∃ fl, fl = ((rtsP d ls).take k).flatten := ⟨_, rfl⟩
        rw [← hfle] at HE hfl HRr
        obtain ⟨x, hx⟩ : ∃ x, x = ls[k] := ⟨_, rfl⟩
        have HX := hide hx
        rw [← hx] at HE hS hSw hBx
        have HSw := hide hSw
        obtain ⟨ax, cx, hxv, hj⟩ := hS
        clear hj
        subst hxv
        clear hc HC hfle hx hSw
        by_cases h32 : x.length = 32
        · rw [h32] at hcw HSw
          have HG2 : Hid (∀ i (h : i < ls.length), i < k + 1 → ls[i].length = 32) := by
            intro i hi hik
            rcases Nat.lt_or_ge i k with h | h
            · exact unhide HGo i hi h
            · obtain rfl : i = k := by omega
              rw [← unhide HX]; exact h32
          obtain ⟨j, hj⟩ : ∃ j, j = k / 2 := ⟨_, rfl⟩
          have hji : (k : Int) / 2 = (j : Int) := by omega
          have hjt : Int.tdiv (k : Int) 2 = (j : Int) := by rw [Int.tdiv_eq_ediv_of_nonneg (by omega)]; omega
          have hj31 : (j : Int) ≤ 31 := by omega
          have hj2 : (31 - (j : Int)).toNat = 31 - j := by omega
          have hd0 : 0 ≤ d / 2 ^ (31 - j) := Int.ediv_nonneg h0 (Int.le_of_lt (Int.pow_pos (by omega)))
          have ha := and_one _ hd0
          rw [← sd_val] at ha
          obtain ⟨t, ht⟩ : ∃ t, t = sdP d j := ⟨_, rfl⟩
          rw [← ht] at ha
          have ht1 : (t : Int) ≤ 1 := by have := sdP_lt d j; rw [← ht] at this; omega
          obtain ⟨s, hs⟩ : ∃ s, s = k % 2 := ⟨_, rfl⟩
          have hsi : (k : Int) % 2 = (s : Int) := by omega
          have hst : Int.tmod (k : Int) 2 = (s : Int) := by rw [Int.tmod_eq_emod_of_nonneg (by omega)]; omega
          have hrt : rtP d k x = if t = s then sha (11 :: x) else x := by
            unfold rtP digC
            rw [← hj, ← hs, ← ht]
            by_cases h : t = s <;> simp [h]
          rw [hrt] at HE
          clear hrt hj hs ht hd0
          by_cases hts : t = s
          · subst hts
            rw [if_pos rfl] at HE
            have HL := hide (lists1 (unhide HSw) hBx)
            have HK := hide ((Kp.refl [] wr).alloc (.cells #[.slice ax 32 cx] 24))
            obtain ⟨q, hq⟩ : ∃ q, q = sha (11 :: x) := ⟨_, rfl⟩
            have hql : q.length = 32 := by rw [hq]; exact sha_len _
            rw [← hq] at HE
            have HQ := hide hq
            clear hq
            go_wp2_with fail
            refine (reftagged_any 11 _ _ q (by rw [unhide HQ, cat1]) _ (unhide HL) (by omega) (by omega) (by simp) (by simp; omega)).mono ?_
            rintro ee w5 ⟨a5, m5, c5, rfl, R5, K5⟩
            have HS5 := hide R5.sl
            have HK5 := hide ((unhide HK).trans K5)
            clear R5 K5 HL HK
            go_wp2_with (at_builtin; refine wpList_append_row rfl (.tmp 45) (.tmp 46) rfl w.heap.size _ fl rfl ((unhide HRr).kept (unhide HK5) (by simp)) _ q rfl (unhide HS5) (by omega) (by have := (unhide HKr).size; have := (unhide HK5).size; omega) ?_; intro ao6 m6 c6 w6 R6 s6)
            go_roundw
            case rel => exact ⟨k + 1, m6, c6, ao6, by omega, rfl, by go_num, by rw [unhide HE]; exact R6, unhide HG2, (unhide HRr).step (unhide HKr) (s6.after (unhide HK5))⟩
            case measure => simp [intOf]; omega
          · rw [if_neg hts] at HE
            have htsi : ((t : Int) == (s : Int)) = false := beq_eq_false_iff_ne.2 (by omega)
            go_wp2_with (at_builtin; refine wpList_append_row rfl (.tmp 45) (.tmp 46) rfl w.heap.size _ fl rfl (unhide HRr) _ x rfl (unhide HSw) (by omega) (by have := (unhide HKr).size; omega) ?_; intro ao6 m6 c6 w6 R6 s6)
            go_roundw
            case rel => exact ⟨k + 1, m6, c6, ao6, by omega, rfl, by go_num, by rw [unhide HE]; exact R6, unhide HG2, (unhide HRr).step (unhide HKr) s6⟩
            case measure => simp [intOf]; omega
        · have hbad := areP_bad (ls := ls) k hkl (by rw [← unhide HX]; exact h32)
          have hbf : b = false := (unhide HBb).trans hbad
          have h32i : ¬ (x.length : Int) = 32 := by omega
          clear hbad
          go_wp2_with fail
          go_ret2
          exact ⟨_, by rw [hbf]; rfl, by rw [hbf]; rfl, unhide HKr⟩
      · obtain rfl : k = 64 := by omega
        have hgd := areP_good (ls := ls) (unhide H64) (fun i hi => unhide HGo i hi (by have := unhide H64; omega))
        have hbt : b = true := (unhide HBb).trans hgd
        have hfl := rts_take_len d ls 64 (unhide H64) (unhide HGo) (by omega)
        have htk : (rtsP d ls).take 64 = rtsP d ls := List.take_of_length_le (by rw [rtsP_len]; have := unhide H64; omega)
        rw [htk] at HRr hfl
        obtain ⟨fl, hfle⟩ : ∃ fl, fl = (rtsP d ls).flatten := ⟨_, rfl⟩
        have hFB : Bs fl := by
          rw [hfle]
          intro y hy
          obtain ⟨z, hz, hy⟩ := List.mem_flatten.1 hy
          obtain ⟨i, hi, rfl⟩ := List.getElem_of_mem hz
          have hi2 : i < ls.length := by rw [rtsP_len] at hi; exact hi
          have : (rtsP d ls)[i] = rtP d i ls[i] := by simp [rtsP]
          rw [this] at hy
          exact rtP_bs (unhide HBl _ (List.getElem_mem hi2)) y hy
        have HR2 : Hid (r = sha (12 :: fl)) := by rw [unhide HR, hfle]; rfl
        rw [← hfle] at HRr hfl
        have HL := hide (lists1 (unhide HRr).sl hFB)
        have HK := hide ((unhide HKr).trans ((Kp.refl [] wr).alloc (.cells #[.slice ao m c] 24)))
        clear hfle hFB htk hgd HC HRr HKr HR
        subst hbt
        go_wp2_with fail
        refine (reftagged_any 12 _ _ r (by rw [unhide HR2, cat1]) _ (unhide HL) (by omega) (by omega) (by simp) (by simp; omega)).mono ?_
        rintro ee w6 ⟨a6, m6, c6, rfl, R6, K6⟩
        have HR6 := hide (row_new R6 (unhide HK))
        have HK6 := hide ((unhide HK).trans K6)
        clear HL HK R6 K6
        go_wp2_with fail
        go_ret2
        exact ⟨_, rfl, ⟨a6, m6, c6, rfl, unhide HR6⟩, unhide HK6⟩
  · have hbad := areP_short (ls := ls) h64
    have hbf : b = false := (unhide HBb).trans hbad
    subst hbf
    have hni : ¬ (ls.length : Int) = 64 := by omega
    clear HC hbad
    go_enter Tryd.func53, Tryd.ntmps53
    go_wp2_with fail
    go_ret2
    exact ⟨_, rfl, rfl, Kp.refl _ _⟩
end Go.Proofs.YtdioaohejoflcaaDoor

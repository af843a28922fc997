/-
  The contracts of package front: receiptOf, Receipts, Waits, Receipt.
-/
import Derived.Test.YteabdojjllfcpaaGreatQOFrontEmpties3
import Derived.Test.YteabdojjllfcpaaGreatQC26
namespace Go.Proofs.YteabdojjllfcpaaGreat
open Go.RowKit
open Go.Proofs
set_option linter.unusedVariables false
section
variable {w0 w : World} {p l pd : Nat} {S : FS} {g : Fps}
theorem fwaits_any (h : Fg w0 w p l pd S g) (n : Nat) (hn : n = S.ms.length) : Calls Tryz.prog 16 #[.pointer (some ⟨p, 0, none⟩)] w fun e w' => e = .returned (.int .i64 (n : Nat)) ∧ w' = w := by
  obtain ⟨j, q, vr, hx⟩ := h
  have hc := hx.at_.c2
  have HL := hide (qf_len hx.qf n hn)
  clear hx hn
  go_enter Tryz.func16, Tryz.ntmps16
  go_wp2_with fail
  refine HL.out.mono ?_
  rintro ee w1 ⟨rfl, hw⟩
  subst w1
  clear HL
  go_wp2_with fail
  go_ret
  exact ⟨rfl, rfl⟩
set_option maxRecDepth 100000 in
theorem frec_ok (h : Fg w0 w p l pd S g) (i : Nat) (hi : i < S.rc.length) (x : List Int) (hx : x = S.rc[i]) : Calls Tryz.prog 26 #[.pointer (some ⟨p, 0, none⟩), .int .i64 i] w fun e w' => ∃ c, e = .returned (.tuple #[.slice (some ⟨w.heap.size, 0, none⟩) x.length c, .bool true]) ∧ Sl w' (.slice (some ⟨w.heap.size, 0, none⟩) x.length c) x ∧ Kp [] w w' := by
  have HZ := hide (frcs_any h _ rfl)
  obtain ⟨j, q, vr, hg⟩ := h
  obtain ⟨ar, cr, rfl⟩ := hg.rr.shape
  have hc4 := hg.at_.c4
  obtain ⟨b, rfl, hc⟩ := hg.rr.at i hi
  obtain ⟨hBx, hlx⟩ := hg.rb _ (List.getElem_mem hi)
  rw [← hx] at hc hBx hlx
  obtain ⟨c5, w5, hcv, S5, K5⟩ := conv_big (strOfNums x) w (by rw [str_size]; omega)
  rw [nums_str x hBx] at S5
  rw [str_size] at hcv S5
  have HS5 := hide S5
  have HK5 := hide K5
  obtain ⟨n, hn⟩ : ∃ n, n = S.rc.length := ⟨_, rfl⟩
  rw [← hn] at HZ hi hc4
  have h0 : ¬ (i : Int) < 0 := by omega
  have hd : decide ((i : Int) < 0) = false := decide_eq_false h0
  have h1 : ¬ (n : Int) ≤ (i : Int) := by omega
  have h2 : (i : Int) < (n : Int) := by omega
  have hd1 : decide ((n : Int) ≤ (i : Int)) = false := decide_eq_false h1
  obtain ⟨nx, hnx⟩ : ∃ n, n = x.length := ⟨_, rfl⟩
  rw [← hnx] at hcv HS5 ⊢
  clear hn hg S5 K5 hx hnx
  go_enter Tryz.func26, Tryz.ntmps26
  go_wp2_with fail
  refine HZ.out.mono ?_
  rintro ee w1 ⟨rfl, hw⟩
  subst w1
  clear HZ
  go_wp2_with fail
  go_ret2
  exact ⟨c5, rfl, HS5.out, HK5.out⟩
end
end Go.Proofs.YteabdojjllfcpaaGreat

/-
  A slice of asks as an argument of front's laws.
-/
namespace Go.Proofs.YteabdojjllfcpaaGreat
open Go.ChangeShapes Go.WideShapes Go.ChangeAt Go.RowKit
open Go.Proofs
open Go.Deep
set_option linter.unusedVariables false
section
variable {P : Program} {H : Type} {enc : TypeId × Value → H} {w : World} {base : Nat} {spare : Nat → Bool} {held : Bool}
theorem trod_struct5 {t : TypeId} {f0 f1 f2 f3 f4 : Field} {fuel : Nat} {cs : List Value} {x : DataW H × List MemPlace} (ht : P.underlying t = some (.struct #[f0, f1, f2, f3, f4])) (h : DataW.trod enc P w base spare held fuel t cs = some x) :
    ∃ y0 y1 y2 y3 y4 n, x = (.agg [y0.1, y1.1, y2.1, y3.1, y4.1], y0.2 ++ (y1.2 ++ (y2.2 ++ (y3.2 ++ y4.2)))) ∧ cs.length = P.cellsOf t ∧ DataW.trod enc P w base spare held n f0.type ((cs.drop f0.offset).take (P.cellsOf f0.type)) = some y0 ∧
      DataW.trod enc P w base spare held n f1.type ((cs.drop f1.offset).take (P.cellsOf f1.type)) = some y1 ∧ DataW.trod enc P w base spare held n f2.type ((cs.drop f2.offset).take (P.cellsOf f2.type)) = some y2 ∧
      DataW.trod enc P w base spare held n f3.type ((cs.drop f3.offset).take (P.cellsOf f3.type)) = some y3 ∧ DataW.trod enc P w base spare held n f4.type ((cs.drop f4.offset).take (P.cellsOf f4.type)) = some y4 := by
  obtain ⟨xs, n, _, rfl, hl, hlen, hf⟩ := DataW.trod_struct ht h
  match xs, hlen with
  | [y0, y1, y2, y3, y4], _ => exact ⟨y0, y1, y2, y3, y4, n, by simp, hl, by simpa using hf 0 f0 rfl, by simpa using hf 1 f1 rfl, by simpa using hf 2 f2 rfl, by simpa using hf 3 f3 rfl, by simpa using hf 4 f4 rfl⟩
end
/-- one ask as data. -/
structure AskFE where
  kind : Int
  a : Int
  v : Int
  nw : Int
  vb : Value
  bs : List Int
def AskFAt (w : World) (b o : Nat) (x : AskFE) : Prop :=
  w.rangeAt b o [.int .i64 x.kind, .int .i64 x.a, .int .i64 x.v, .int .i64 x.nw, x.vb] ∧ Sl w x.vb x.bs ∧ Bs x.bs
/-- v is a slice that reads as the asks l. -/
def AskF (w : World) (v : Value) (l : List AskFE) : Prop :=
  ∃ ao c, v = .slice ao l.length c ∧ l.length ≤ 9223372036854775807 ∧ ∀ i (h : i < l.length), ∃ b off, ao = some ⟨b, off, none⟩ ∧ AskFAt w b (off + i * 5) l[i]
theorem AskFAt.kept {w w' : World} {b o : Nat} {x : AskFE} (h : AskFAt w b o x) (k : Kp [] w w') : AskFAt w' b o x :=
  ⟨fun j u hu => k.cell (h.1 j u hu) (by simp), h.2.1.kept k (by simp), h.2.2⟩
theorem AskF.kept {w w' : World} {v : Value} {l : List AskFE} (h : AskF w v l) (k : Kp [] w w') : AskF w' v l := by
  obtain ⟨ao, c, rfl, h1, h2⟩ := h
  refine ⟨ao, c, rfl, h1, fun i hi => ?_⟩
  obtain ⟨b, off, e, h3⟩ := h2 i hi
  exact ⟨b, off, e, h3.kept k⟩
theorem Tryz.askFFields : ∃ f0 f1 f2 f3 f4, Tryz.prog.underlying 39 = some (.struct #[f0, f1, f2, f3, f4]) ∧ (f0.offset = 0 ∧ f1.offset = 1 ∧ f2.offset = 2 ∧ f3.offset = 3 ∧ f4.offset = 4) ∧ (f0.type = 3 ∧ f1.type = 3 ∧ f2.type = 3 ∧ f3.type = 3 ∧ f4.type = 28) :=
  ⟨_, _, _, _, _, Tryz.underlying39, ⟨rfl, rfl, rfl, rfl, rfl⟩, ⟨rfl, rfl, rfl, rfl, rfl⟩⟩
theorem Tryz.cellsAskF : Tryz.prog.cellsOf 39 = 5 := by kernel_rfl
theorem Tryz.cellsIntF : Tryz.prog.cellsOf 3 = 1 := by kernel_rfl
theorem Tryz.cellsSlF : Tryz.prog.cellsOf 28 = 1 := by kernel_rfl
section
variable {H : Type} {enc : TypeId × Value → H} {w : World}
theorem askFe_of_trod {a : Addr} {cs : List Value} {n : Nat} {x : DataW H × List MemPlace} (hc : w.cells? 0 a 5 = some cs) (h : DataW.trod enc Tryz.prog w 0 (fun _ => true) true n 39 cs = some x) :
    a.spot = none ∧ ∃ d, AskFAt w a.block a.off d := by
  obtain ⟨f0, f1, f2, f3, f4, hu, ⟨o0, o1, o2, o3, o4⟩, ⟨t0, t1, t2, t3, t4⟩⟩ := Tryz.askFFields
  obtain ⟨y0, y1, y2, y3, y4, m, _, hl, h0, h1, h2, h3, h4⟩ := trod_struct5 hu h
  obtain ⟨_, hlen, hcell⟩ := World.cells?_some hc
  rw [o0, t0, Tryz.cellsIntF] at h0
  rw [o1, t1, Tryz.cellsIntF] at h1
  rw [o2, t2, Tryz.cellsIntF] at h2
  rw [o3, t3, Tryz.cellsIntF] at h3
  rw [o4, t4, Tryz.cellsSlF] at h4
  match cs, hlen with
  | [c0, c1, c2, c3, c4], _ =>
    simp only [List.drop_zero, List.drop_succ_cons, List.take_succ_cons, List.take_zero] at h0 h1 h2 h3 h4
    obtain ⟨x0, e0, _, _⟩ := DataW.trod_int Tryz.underlying3 h0
    obtain ⟨x1, e1, _, _⟩ := DataW.trod_int Tryz.underlying3 h1
    obtain ⟨x2, e2, _, _⟩ := DataW.trod_int Tryz.underlying3 h2
    obtain ⟨x3, e3, _, _⟩ := DataW.trod_int Tryz.underlying3 h3
    obtain ⟨bs, hs, hB⟩ := bytes_of_trod h4
    simp only [List.cons.injEq, and_true] at e0 e1 e2 e3
    subst e0 e1 e2 e3
    obtain ⟨b, off, spot⟩ := a
    have k0 := hcell 0 (by omega)
    have hspot : ((⟨b, off, spot⟩ : Addr).add 0).spot = none := World.cell?_spot (v := .int .i64 x0) (by simpa using k0)
    have hspot' : spot = none := by rw [Addr.add_zero'] at hspot; exact hspot
    subst hspot'
    refine ⟨rfl, ⟨x0, x1, x2, x3, c4, bs⟩, fun j u hu => ?_, hs, hB⟩
    have hj : j < 5 := by have := (List.getElem?_eq_some_iff.1 hu).1; simpa using this
    have kj := hcell j (by omega)
    rw [Addr.add_lit] at kj
    rw [kj]
    exact hu
theorem askF_of_trod {v : Value} {fuel : Nat} {x : DataW H × List MemPlace} (h : DataW.trod enc Tryz.prog w 0 (fun _ => true) true fuel 37 [v] = some x) : ∃ l, AskF w v l := by
  rcases open_slice Tryz.underlying37 h with ⟨hcs, _⟩ | ⟨a, len, cap, m, n, D, Pl, hcs, _, hl, hm, hmm, _, hx⟩
  · simp only [List.cons.injEq, and_true] at hcs
    subst hcs
    exact ⟨[], none, 0, rfl, by simp, fun i hi => by cases hi⟩
  · simp only [List.cons.injEq, and_true] at hcs
    subst hcs
    simp only [if_true] at hmm
    subst hmm
    rw [Tryz.cellsAskF] at hx
    have key : ∀ i, i < len → ∃ d, (a.add (i * 5)).spot = none ∧ AskFAt w (a.add (i * 5)).block (a.add (i * 5)).off d := fun i hi => by
      obtain ⟨cs', h1, h2⟩ := hx i (by omega)
      obtain ⟨e, d, hd⟩ := askFe_of_trod h1 h2
      exact ⟨d, e, hd⟩
    have inst : Inhabited AskFE := ⟨⟨0, 0, 0, 0, .slice none 0 0, []⟩⟩
    obtain ⟨F, hF⟩ := @choose_lt AskFE inst len (fun i d => (a.add (i * 5)).spot = none ∧ AskFAt w (a.add (i * 5)).block (a.add (i * 5)).off d) key
    have hlen : ((List.range len).map F).length = len := by simp
    refine ⟨(List.range len).map F, some a, m, by rw [hlen], by unfold maxLen at hm; rw [hlen]; omega, fun i hi => ?_⟩
    rw [hlen] at hi
    obtain ⟨s0, _⟩ := hF 0 (by omega)
    obtain ⟨si, hA⟩ := hF i hi
    obtain ⟨b, off, spot⟩ := a
    have hspot : spot = none := by simpa [Addr.add] using s0
    subst hspot
    rw [Addr.add_lit] at hA
    have hg : ((List.range len).map F)[i]'(by rw [hlen]; exact hi) = F i := by simp
    rw [hg]
    exact ⟨b, off, rfl, hA⟩
end
end Go.Proofs.YteabdojjllfcpaaGreat

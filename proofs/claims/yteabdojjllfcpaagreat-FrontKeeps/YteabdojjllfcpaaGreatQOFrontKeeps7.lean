/-
  A ledger's disks, asked while it is open; two disks whatever they are.
-/
import Derived.Test.YteabdojjllfcpaaGreatQOFrontKeeps6
import Derived.Test.YteabdojjllfcpaaGreatQC26
namespace Go.Proofs.YteabdojjllfcpaaGreat
open Go.RowKit
open Go.Proofs
set_option linter.unusedVariables false
section
variable {w0 w : World} {l pd pk : Nat} {S : LS} {f : Fps}
theorem uarmD_any (h : Lg w0 w l pd pk S f) (x : Int) (hx0 : x ≤ 9223372036854775807) (d' : Dk) (he : S.dd.armed (max x 0) = d') : Calls Tryz.prog 22 #[.pointer (some ⟨pd, 0, none⟩), .int .i64 x] w fun e w' => e = .returned (.tuple #[]) ∧ ∃ f', Lg w0 w' l pd pk { S with dd := d' } f' ∧ LSt w f w' f' := by
  obtain ⟨j, s, q, vs, pv, hx⟩ := h
  obtain ⟨v, m, h1, hJ, h3, h4⟩ := hx.jx
  refine (nw_arm hJ.nw x hx0 he).mono ?_
  rintro e w' ⟨rfl, N, T⟩
  obtain ⟨F', J', T'⟩ := Jx.stepD ⟨m, h1, hJ, h3, h4⟩ N T
  exact ⟨rfl, f.upd 5 F', ⟨j, s, q, vs, pv, hx.stepJ T' J'⟩, T'.one⟩
theorem uarmK_any (h : Lg w0 w l pd pk S f) (x : Int) (hx0 : x ≤ 9223372036854775807) (d' : Dk) (he : S.dk.armed (max x 0) = d') : Calls Tryz.prog 22 #[.pointer (some ⟨pk, 0, none⟩), .int .i64 x] w fun e w' => e = .returned (.tuple #[]) ∧ ∃ f', Lg w0 w' l pd pk { S with dk := d' } f' ∧ LSt w f w' f' := by
  obtain ⟨j, s, q, vs, pv, hx⟩ := h
  obtain ⟨v, jk, m, h1, hJ, h3, h4, h5, h6, h7⟩ := hx.bf
  refine (nw_arm hJ.nw x hx0 he).mono ?_
  rintro e w' ⟨rfl, N, T⟩
  obtain ⟨F', B', T'⟩ := Bf.stepD ⟨jk, m, h1, hJ, h3, h4, h5, h6, h7⟩ N T
  exact ⟨rfl, f.upd 6 F', ⟨j, s, q, vs, pv, hx.stepB T' B' hx.nk⟩, T'.one⟩
theorem ds_crashD {dd dk d' : Dk} (h : Ds w0 w pd pk dd dk f) (x : Int) (he : dd.crash x = d') : Calls Tryz.prog 25 #[.pointer (some ⟨pd, 0, none⟩), .int .i64 x] w fun e w' => e = .returned (.tuple #[]) ∧ ∃ f', Ds w0 w' pd pk d' dk f' ∧ Stp f.tot w w' f'.tot := by
  obtain ⟨v, N, hv⟩ := h.d
  refine (nw_crash N x he).mono ?_
  rintro e w' ⟨rfl, v', N', T⟩
  obtain ⟨F', D', T', hF⟩ := Dx.stepD hv N' T
  have o := h.ok.upd T'
  obtain ⟨U, hU, k⟩ := T'.kp
  refine ⟨rfl, f.upd 5 F', ⟨o, by rw [upd_eq]; exact D', ?_⟩, T'.one⟩
  rw [upd_ne (by decide)]
  exact h.k.kept k o.kp (h.ok.apart (a := 5) (b := 6) (by decide) hU)
theorem ds_crashK {dd dk d' : Dk} (h : Ds w0 w pd pk dd dk f) (x : Int) (he : dk.crash x = d') : Calls Tryz.prog 25 #[.pointer (some ⟨pk, 0, none⟩), .int .i64 x] w fun e w' => e = .returned (.tuple #[]) ∧ ∃ f', Ds w0 w' pd pk dd d' f' ∧ Stp f.tot w w' f'.tot := by
  obtain ⟨v, N, hv⟩ := h.k
  refine (nw_crash N x he).mono ?_
  rintro e w' ⟨rfl, v', N', T⟩
  obtain ⟨F', D', T', hF⟩ := Dx.stepD hv N' T
  have o := h.ok.upd T'
  obtain ⟨U, hU, k⟩ := T'.kp
  refine ⟨rfl, f.upd 6 F', ⟨o, ?_, by rw [upd_eq]; exact D'⟩, T'.one⟩
  rw [upd_ne (by decide)]
  exact h.d.kept k o.kp (h.ok.apart (a := 6) (b := 5) (by decide) hU)
end
end Go.Proofs.YteabdojjllfcpaaGreat

/-
  Arguments of the laws of ledger: slices of slices of numbers; rows of slices that lie aside.
-/
namespace Go.Proofs.YteabdojjllfcpaaGreat
open Go.RowKit
open Go.Proofs
open Go.Deep Go.ChangeShapes Go.WideShapes
set_option linter.unusedVariables false
section
variable {w0 w w' : World} {F F' : Nat → Prop} {v v' : Value} {la : List (Value × List Int)}
end
theorem sl_lt {w : World} {v : Value} {bs : List Int} {k : Nat} (h : Sl w v bs) (hb : bs ≠ []) (hk : v.ownBlock = some k) : k < w.heap.size := by
  obtain ⟨ao, c, rfl, _, _, _, h4⟩ := h
  have hpos : 0 < bs.length := List.length_pos_iff.2 hb
  cases ao with
  | none => cases hk
  | some a =>
    have hc := h4 a rfl 0 (.int .u8 bs[0]) (by simp [List.getElem?_eq_getElem hpos])
    have := World.block_lt_of_cell? _ _ hc
    rw [add_block] at this
    have e : a.block = k := by simpa [Value.ownBlock] using hk
    omega
end Go.Proofs.YteabdojjllfcpaaGreat

/-
  The contracts of package front: receiptOf, Receipts, Waits, Receipt.
-/
namespace Go.Proofs.YteabdojjllfcpaaGreat
open Go.RowKit
open Go.Proofs
set_option linter.unusedVariables false
section
variable {w0 w : World} {p l pd : Nat} {S : FS} {g : Fps}
set_option maxRecDepth 100000 in
theorem frec_ok (h : Fg w0 w p l pd S g) (i : Nat) (hi : i < S.rc.length) (x : List Int) (hx : x = S.rc[i]) : Calls Tryz.prog 26 #[.pointer (some ⟨p, 0, none⟩), .int .i64 i] w fun e w' => ∃ c, e = .returned (.tuple #[.slice (some ⟨w.heap.size, 0, none⟩) x.length c, .bool true]) ∧ Sl w' (.slice (some ⟨w.heap.size, 0, none⟩) x.length c) x ∧ Kp [] w w' := by
  have HZ := hide (frcs_any h _ rfl)
  obtain ⟨j, q, vr, hg⟩ := h
  obtain ⟨ar, cr, rfl⟩ := hg.rr.shape
  have hc4 := hg.at_.c4
  obtain ⟨b, rfl, hc⟩ := hg.rr.at i hi
  obtain ⟨hBx, hlx⟩ := hg.rb _ (List.getElem_mem hi)
  rw [← hx] at hc hBx hlx
  obtain ⟨c5, w5, hcv, S5, K5⟩ := conv_big (strOfNums x) w (by rw [str_size]; omega)
  rw [nums_str x hBx] at S5
  rw [str_size] at hcv S5
  have HS5 := hide S5
  have HK5 := hide K5
  obtain ⟨n, hn⟩ : ∃ n, n = S.rc.length := ⟨_, rfl⟩
  rw [← hn] at HZ hi hc4
  have h0 : ¬ (i : Int) < 0 := by omega
  have hd : decide ((i : Int) < 0) = false := decide_eq_false h0
  have h1 : ¬ (n : Int) ≤ (i : Int) := by omega
  have h2 : (i : Int) < (n : Int) := by omega
  have hd1 : decide ((n : Int) ≤ (i : Int)) = false := decide_eq_false h1
  obtain ⟨nx, hnx⟩ : ∃ n, n = x.length := ⟨_, rfl⟩
  rw [← hnx] at hcv HS5 ⊢
  clear hn hg S5 K5 hx hnx
  go_enter Tryz.func26, Tryz.ntmps26
  go_wp2_with fail
  refine HZ.out.mono ?_
  rintro ee w1 ⟨rfl, hw⟩
  subst w1
  clear HZ
  go_wp2_with fail
  go_ret2
  exact ⟨c5, rfl, HS5.out, HK5.out⟩
end
end Go.Proofs.YteabdojjllfcpaaGreat

/-
  The contract of package front: Step.
-/
namespace Go.Proofs.YteabdojjllfcpaaGreat
open Go.RowKit
open Go.Proofs
set_option linter.unusedVariables false
section
variable {w0 w : World} {p l pd pl pk : Nat} {S : FS} {L : LS} {g f : Fps}
theorem fstep_no (h : Fg w0 w p l pd S g) (now : Int) (h0 : -9223372036854775808 ≤ now) (h1 : now ≤ 9223372036854775807) (hd : S.q.due now = false) :
    Calls Tryz.prog 23 #[.pointer (some ⟨p, 0, none⟩), .int .i64 now] w fun e w' => e = .returned (.tuple #[.slice none 0 0, .int .i64 0]) ∧ Kp [] w w' := by
  obtain ⟨j, q, vr, hx⟩ := h
  have hc := hx.at_.c2
  have HD := hide (qf_due hx.qf now h0 h1 false hd.symm)
  clear hx h0 h1 hd
  go_enter Tryz.func23, Tryz.ntmps23
  go_wp2_with fail
  refine HD.out.mono ?_
  rintro ee w1 ⟨rfl, K1⟩
  have HK1 := hide K1
  clear HD K1
  go_wp2_with fail
  go_ret2
  exact ⟨rfl, HK1.out⟩
end
end Go.Proofs.YteabdojjllfcpaaGreat

/-
  The laws of front: fresh, on; a front and its ledger are opened on new disks.
-/
namespace Go.Proofs.YteabdojjllfcpaaGreat
open Go.RowKit
open Go.Proofs
set_option linter.unusedVariables false
section
variable {w w' : World} {x : Nat} {vf vl vd ve vk vw vrc vq : Value} {r s t : Int}
end
section
variable {w0 w : World} {x pd pl pk : Nat} {f : Fps} {F : Nat → Prop} {r s t : Int}
end
section
variable {w0 w : World} {x p l pd pl pk : Nat} {S : FS} {L : LS} {g f : Fps} {vw vrc vq : Value}
/-- Step of whatever is due. -/
theorem wz_step_no (h : Wz w0 w x p l pd pl pk S L g f vw vrc vq) (now : Int) (h0 : -9223372036854775808 ≤ now) (h1 : now ≤ 9223372036854775807) (hd : S.q.due now = false) :
    Calls Tryz.prog 23 #[.pointer (some ⟨p, 0, none⟩), .int .i64 now] w fun e w' => e = .returned (.tuple #[.slice none 0 0, .int .i64 0]) ∧ Kp [] w w' := fstep_no h.bo.fr now h0 h1 hd
end
end Go.Proofs.YteabdojjllfcpaaGreat

/-
  A slice of asks as an argument of front's laws.
-/
namespace Go.Proofs.YteabdojjllfcpaaGreat
open Go.ChangeShapes Go.WideShapes Go.ChangeAt Go.RowKit
open Go.Proofs
open Go.Deep
set_option linter.unusedVariables false
section
variable {P : Program} {H : Type} {enc : TypeId × Value → H} {w : World} {base : Nat} {spare : Nat → Bool} {held : Bool}
theorem trod_struct5 {t : TypeId} {f0 f1 f2 f3 f4 : Field} {fuel : Nat} {cs : List Value} {x : DataW H × List MemPlace} (ht : P.underlying t = some (.struct #[f0, f1, f2, f3, f4])) (h : DataW.trod enc P w base spare held fuel t cs = some x) :
    ∃ y0 y1 y2 y3 y4 n, x = (.agg [y0.1, y1.1, y2.1, y3.1, y4.1], y0.2 ++ (y1.2 ++ (y2.2 ++ (y3.2 ++ y4.2)))) ∧ cs.length = P.cellsOf t ∧ DataW.trod enc P w base spare held n f0.type ((cs.drop f0.offset).take (P.cellsOf f0.type)) = some y0 ∧
      DataW.trod enc P w base spare held n f1.type ((cs.drop f1.offset).take (P.cellsOf f1.type)) = some y1 ∧ DataW.trod enc P w base spare held n f2.type ((cs.drop f2.offset).take (P.cellsOf f2.type)) = some y2 ∧
      DataW.trod enc P w base spare held n f3.type ((cs.drop f3.offset).take (P.cellsOf f3.type)) = some y3 ∧ DataW.trod enc P w base spare held n f4.type ((cs.drop f4.offset).take (P.cellsOf f4.type)) = some y4 := by
  obtain ⟨xs, n, _, rfl, hl, hlen, hf⟩ := DataW.trod_struct ht h
  match xs, hlen with
  | [y0, y1, y2, y3, y4], _ => exact ⟨y0, y1, y2, y3, y4, n, by simp, hl, by simpa using hf 0 f0 rfl, by simpa using hf 1 f1 rfl, by simpa using hf 2 f2 rfl, by simpa using hf 3 f3 rfl, by simpa using hf 4 f4 rfl⟩
end
/-- one ask as data. -/
structure AskFE where
  kind : Int
  a : Int
  v : Int
  nw : Int
  vb : Value
  bs : List Int
def AskFAt (w : World) (b o : Nat) (x : AskFE) : Prop :=
  w.rangeAt b o [.int .i64 x.kind, .int .i64 x.a, .int .i64 x.v, .int .i64 x.nw, x.vb] ∧ Sl w x.vb x.bs ∧ Bs x.bs
/-- v is a slice that reads as the asks l. -/
def AskF (w : World) (v : Value) (l : List AskFE) : Prop :=
  ∃ ao c, v = .slice ao l.length c ∧ l.length ≤ 9223372036854775807 ∧ ∀ i (h : i < l.length), ∃ b off, ao = some ⟨b, off, none⟩ ∧ AskFAt w b (off + i * 5) l[i]
theorem AskFAt.kept {w w' : World} {b o : Nat} {x : AskFE} (h : AskFAt w b o x) (k : Kp [] w w') : AskFAt w' b o x :=
  ⟨fun j u hu => k.cell (h.1 j u hu) (by simp), h.2.1.kept k (by simp), h.2.2⟩
theorem AskF.kept {w w' : World} {v : Value} {l : List AskFE} (h : AskF w v l) (k : Kp [] w w') : AskF w' v l := by
  obtain ⟨ao, c, rfl, h1, h2⟩ := h
  refine ⟨ao, c, rfl, h1, fun i hi => ?_⟩
  obtain ⟨b, off, e, h3⟩ := h2 i hi
  exact ⟨b, off, e, h3.kept k⟩
theorem Tryz.askFFields : ∃ f0 f1 f2 f3 f4, Tryz.prog.underlying 39 = some (.struct #[f0, f1, f2, f3, f4]) ∧ (f0.offset = 0 ∧ f1.offset = 1 ∧ f2.offset = 2 ∧ f3.offset = 3 ∧ f4.offset = 4) ∧ (f0.type = 3 ∧ f1.type = 3 ∧ f2.type = 3 ∧ f3.type = 3 ∧ f4.type = 28) :=
  ⟨_, _, _, _, _, Tryz.underlying39, ⟨rfl, rfl, rfl, rfl, rfl⟩, ⟨rfl, rfl, rfl, rfl, rfl⟩⟩
theorem Tryz.cellsAskF : Tryz.prog.cellsOf 39 = 5 := by kernel_rfl
theorem Tryz.cellsIntF : Tryz.prog.cellsOf 3 = 1 := by kernel_rfl
theorem Tryz.cellsSlF : Tryz.prog.cellsOf 28 = 1 := by kernel_rfl
section
variable {H : Type} {enc : TypeId × Value → H} {w : World}
theorem askFe_of_trod {a : Addr} {cs : List Value} {n : Nat} {x : DataW H × List MemPlace} (hc : w.cells? 0 a 5 = some cs) (h : DataW.trod enc Tryz.prog w 0 (fun _ => true) true n 39 cs = some x) :
    a.spot = none ∧ ∃ d, AskFAt w a.block a.off d := by
  obtain ⟨f0, f1, f2, f3, f4, hu, ⟨o0, o1, o2, o3, o4⟩, ⟨t0, t1, t2, t3, t4⟩⟩ := Tryz.askFFields
  obtain ⟨y0, y1, y2, y3, y4, m, _, hl, h0, h1, h2, h3, h4⟩ := trod_struct5 hu h
  obtain ⟨_, hlen, hcell⟩ := World.cells?_some hc
  rw [o0, t0, Tryz.cellsIntF] at h0
  rw [o1, t1, Tryz.cellsIntF] at h1
  rw [o2, t2, Tryz.cellsIntF] at h2
  rw [o3, t3, Tryz.cellsIntF] at h3
  rw [o4, t4, Tryz.cellsSlF] at h4
  match cs, hlen with
  | [c0, c1, c2, c3, c4], _ =>
    simp only [List.drop_zero, List.drop_succ_cons, List.take_succ_cons, List.take_zero] at h0 h1 h2 h3 h4
    obtain ⟨x0, e0, _, _⟩ := DataW.trod_int Tryz.underlying3 h0
    obtain ⟨x1, e1, _, _⟩ := DataW.trod_int Tryz.underlying3 h1
    obtain ⟨x2, e2, _, _⟩ := DataW.trod_int Tryz.underlying3 h2
    obtain ⟨x3, e3, _, _⟩ := DataW.trod_int Tryz.underlying3 h3
    obtain ⟨bs, hs, hB⟩ := bytes_of_trod h4
    simp only [List.cons.injEq, and_true] at e0 e1 e2 e3
    subst e0 e1 e2 e3
    obtain ⟨b, off, spot⟩ := a
    have k0 := hcell 0 (by omega)
    have hspot : ((⟨b, off, spot⟩ : Addr).add 0).spot = none := World.cell?_spot (v := .int .i64 x0) (by simpa using k0)
    have hspot' : spot = none := by rw [Addr.add_zero'] at hspot; exact hspot
    subst hspot'
    refine ⟨rfl, ⟨x0, x1, x2, x3, c4, bs⟩, fun j u hu => ?_, hs, hB⟩
    have hj : j < 5 := by have := (List.getElem?_eq_some_iff.1 hu).1; simpa using this
    have kj := hcell j (by omega)
    rw [Addr.add_lit] at kj
    rw [kj]
    exact hu
theorem askF_of_trod {v : Value} {fuel : Nat} {x : DataW H × List MemPlace} (h : DataW.trod enc Tryz.prog w 0 (fun _ => true) true fuel 37 [v] = some x) : ∃ l, AskF w v l := by
  rcases open_slice Tryz.underlying37 h with ⟨hcs, _⟩ | ⟨a, len, cap, m, n, D, Pl, hcs, _, hl, hm, hmm, _, hx⟩
  · simp only [List.cons.injEq, and_true] at hcs
    subst hcs
    exact ⟨[], none, 0, rfl, by simp, fun i hi => by cases hi⟩
  · simp only [List.cons.injEq, and_true] at hcs
    subst hcs
    simp only [if_true] at hmm
    subst hmm
    rw [Tryz.cellsAskF] at hx
    have key : ∀ i, i < len → ∃ d, (a.add (i * 5)).spot = none ∧ AskFAt w (a.add (i * 5)).block (a.add (i * 5)).off d := fun i hi => by
      obtain ⟨cs', h1, h2⟩ := hx i (by omega)
      obtain ⟨e, d, hd⟩ := askFe_of_trod h1 h2
      exact ⟨d, e, hd⟩
    have inst : Inhabited AskFE := ⟨⟨0, 0, 0, 0, .slice none 0 0, []⟩⟩
    obtain ⟨F, hF⟩ := @choose_lt AskFE inst len (fun i d => (a.add (i * 5)).spot = none ∧ AskFAt w (a.add (i * 5)).block (a.add (i * 5)).off d) key
    have hlen : ((List.range len).map F).length = len := by simp
    refine ⟨(List.range len).map F, some a, m, by rw [hlen], by unfold maxLen at hm; rw [hlen]; omega, fun i hi => ?_⟩
    rw [hlen] at hi
    obtain ⟨s0, _⟩ := hF 0 (by omega)
    obtain ⟨si, hA⟩ := hF i hi
    obtain ⟨b, off, spot⟩ := a
    have hspot : spot = none := by simpa [Addr.add] using s0
    subst hspot
    rw [Addr.add_lit] at hA
    have hg : ((List.range len).map F)[i]'(by rw [hlen]; exact hi) = F i := by simp
    rw [hg]
    exact ⟨b, off, rfl, hA⟩
end
end Go.Proofs.YteabdojjllfcpaaGreat

/-
  Power that goes at any call of any of a front's disks: what stands on them, as plain facts.
-/
namespace Go.Proofs.YteabdojjllfcpaaGreat
open Go.RowKit
open Go.Proofs
set_option linter.unusedVariables false
/-- these records stand on a disk, power is to go at call a. -/
def upR (rs : List (List Int)) (a : Int) : Dk := ⟨layP rs, (layP rs).length, 1048576, a, false⟩
/-- power went while r was written. -/
def dnR (rs : List (List Int)) (r : List Int) : Dk := ⟨layP (rs ++ [r]), (layP rs).length, 1048576, 0, true⟩
def StRf (P : List Int → Prop) (d : Dk) (rs : List (List Int)) : Prop := (∃ a, 0 ≤ a ∧ d = upR rs a) ∨ ∃ r, P r ∧ d = dnR rs r
theorem StRf.imp {P Q : List Int → Prop} {d : Dk} {rs : List (List Int)} (h : StRf P d rs) (hi : ∀ r, P r → Q r) : StRf Q d rs := by
  rcases h with h | ⟨r, h1, h2⟩
  · exact .inl h
  · exact .inr ⟨r, hi r h1, h2⟩
theorem upR_arm (rs : List (List Int)) (a : Int) (h : 0 ≤ a) : (upR rs 0).armed (max a 0) = upR rs a := by
  unfold Dk.armed
  rw [if_neg (by show ¬ false = true; decide), Int.max_eq_left h]
  rfl
theorem str_add {P : List Int → Prop} {d : Dk} {rs : List (List Int)} (h : StRf P d rs) (r : List Int) (hr : P r) (hfit : (layP rs).length + (recP r).length ≤ 1048576) : ∃ er d', d.add (recP r) = (er, d') ∧ (er = true → ∃ a, 0 ≤ a ∧ d' = upR (rs ++ [r]) a) ∧ (er = false → StRf P d' rs) := by
  have hlim : ∀ a, (((upR rs a).bs.length + (recP r).length : Nat) : Int) ≤ (upR rs a).lim := fun a => by show (((layP rs).length + (recP r).length : Nat) : Int) ≤ 1048576; omega
  rcases h with ⟨a, ha, rfl⟩ | ⟨q, hq, rfl⟩
  · by_cases h0 : a = 0
    · subst h0
      refine ⟨true, upR (rs ++ [r]) 0, ?_, fun _ => ⟨0, Int.le_refl 0, rfl⟩, (fun e => by cases e)⟩
      have := Dk.add_up (d := upR rs 0) rfl (Int.le_refl 0) (recP r) (hlim 0)
      rw [this]
      show (true, (⟨layP rs ++ recP r, (layP rs ++ recP r).length, 1048576, 0, false⟩ : Dk)) = _
      rw [← layP_snoc]
      rfl
    · by_cases h1 : a = 1
      · subst h1
        refine ⟨false, dnR rs r, ?_, (fun e => by cases e), fun _ => .inr ⟨r, hr, rfl⟩⟩
        unfold Dk.add
        rw [Dk.app_at (d := upR rs 1) rfl rfl (recP r) (hlim 1), if_neg (by simp)]
        show (false, (⟨layP rs ++ recP r, (layP rs).length, 1048576, 0, true⟩ : Dk)) = _
        rw [← layP_snoc]
        rfl
      · have hc : (upR rs a).cal = (true, false, upR rs (a - 1)) := by
          unfold Dk.cal
          rw [if_neg (by show ¬ false = true; decide), if_pos (by show 0 < a; omega), if_neg (by show ¬ a = 1; omega)]
          rfl
        have happ : (upR rs a).app (recP r) = (true, ⟨layP (rs ++ [r]), (layP rs).length, 1048576, a - 1, false⟩) := by
          have := hlim a
          unfold Dk.app
          rw [hc, if_neg (by simp; omega)]
          show (true, (⟨layP rs ++ recP r, (layP rs).length, 1048576, a - 1, false⟩ : Dk)) = _
          rw [← layP_snoc]
        by_cases h2 : a = 2
        · subst h2
          refine ⟨false, dnR rs r, ?_, (fun e => by cases e), fun _ => .inr ⟨r, hr, rfl⟩⟩
          unfold Dk.add
          rw [happ, if_pos rfl]
          rfl
        · refine ⟨true, upR (rs ++ [r]) (a - 2), ?_, fun _ => ⟨a - 2, by omega, rfl⟩, (fun e => by cases e)⟩
          unfold Dk.add
          rw [happ, if_pos rfl]
          have hc2 : (⟨layP (rs ++ [r]), (layP rs).length, 1048576, a - 1, false⟩ : Dk).cal = (true, false, ⟨layP (rs ++ [r]), (layP rs).length, 1048576, a - 1 - 1, false⟩) := by
            unfold Dk.cal
            rw [if_neg (by show ¬ false = true; decide), if_pos (by show 0 < a - 1; omega), if_neg (by show ¬ a - 1 = 1; omega)]
          show Dk.sync _ = _
          unfold Dk.sync
          rw [hc2, if_pos rfl]
          show (true, (⟨layP (rs ++ [r]), (layP (rs ++ [r])).length, 1048576, a - 1 - 1, false⟩ : Dk)) = _
          rw [show a - 1 - 1 = a - 2 by omega]
          rfl
  · exact ⟨false, dnR rs q, Dk.add_down rfl _, (fun e => by cases e), fun _ => .inr ⟨q, hq, rfl⟩⟩
/-- behind a crash: all records, and perhaps the one under way. -/
theorem str_crash {P : List Int → Prop} {d : Dk} {rs : List (List Int)} (h : StRf P d rs) (hs : ∀ r ∈ rs, r.length ≤ 65535) (hP : ∀ r, P r → r.length ≤ 65535) (keep : Int) : ∃ rs' at_, (d.crash keep).down = false ∧ (d.crash keep).arm ≤ 0 ∧ opnP (d.crash keep).bs = (rs', at_, true) ∧ (d.crash keep).opn = dkOn (layP rs') ∧ (rs' = rs ∨ ∃ r, P r ∧ rs' = rs ++ [r]) := by
  rcases h with ⟨a, ha, rfl⟩ | ⟨r, hr, rfl⟩
  · obtain ⟨q, jj, h1, h2, h3, h4, h5, h6⟩ := crash_lay rs [] keep hs (by simp)
    rw [List.append_nil] at h1 h2 h5 h6
    have e : (upR rs a).crash keep = (⟨layP rs, (layP rs).length, 1048576, 0, false⟩ : Dk).crash keep := rfl
    have ht : rs.take jj = rs := List.take_of_length_le (by omega)
    rw [ht] at h5 h6
    rw [e, h2]
    exact ⟨rs, _, rfl, Int.le_refl 0, h5, h6, .inl rfl⟩
  · have hr1 : ∀ x ∈ [r], x.length ≤ 65535 := fun x hx => by
      obtain rfl : x = r := by simpa using hx
      exact hP x hr
    obtain ⟨q, jj, h1, h2, h3, h4, h5, h6⟩ := crash_lay rs [r] keep hs hr1
    have e : (dnR rs r).crash keep = (⟨layP (rs ++ [r]), (layP rs).length, 1048576, 0, false⟩ : Dk).crash keep := rfl
    rw [e, h2]
    simp only [List.length_cons, List.length_nil, Nat.zero_add] at h4
    rcases (by omega : jj = rs.length ∨ jj = rs.length + 1) with hj | hj
    · have ht : (rs ++ [r]).take jj = rs := by rw [hj]; simp
      rw [ht] at h5 h6
      exact ⟨rs, _, rfl, Int.le_refl 0, h5, h6, .inl rfl⟩
    · have ht : (rs ++ [r]).take jj = rs ++ [r] := List.take_of_length_le (by simp; omega)
      rw [ht] at h5 h6
      exact ⟨rs ++ [r], _, rfl, Int.le_refl 0, h5, h6, .inr ⟨r, hr, rfl⟩⟩
/-- the front, behind k calls. -/
structure KpF (S : FS) (k : Nat) : Prop where
  room : S.room = 8
  size : S.size = 3
  wait : S.wait = 5
  st : StRf (fun r => okM r = true ∧ Bs r ∧ r ∉ S.rc) S.d S.rc
  ok : ∀ x ∈ S.rc, okM x = true ∧ Bs x
  nd : S.rc.Nodup
  m : S.m ≤ k
  len : S.rc.length ≤ k
/-- its ledger. -/
structure KpL (S : FS) (L : LS) (k : Nat) : Prop where
  all : ∀ x ∈ S.rc, x ∈ L.its ∨ x ∈ S.ms.map It.bs
  nd : (L.its ++ S.ms.map It.bs).Nodup
  sub : ∀ x ∈ L.its ++ S.ms.map It.bs, x ∈ S.rc
  dd : ∃ rs, gatU [] rs = some L.its ∧ StRf (fun r => r.length ≤ 65535 ∧ Bs r ∧ ∃ xs, gatU [] (rs ++ [r]) = some (L.its ++ xs) ∧ xs.length ≤ 3) L.dd rs ∧ (∀ r ∈ rs, Bs r ∧ r.length ≤ 400) ∧ rs.length ≤ k
  mj : L.mj ≤ k
  dk : StRf (fun _ => False) L.dk []
theorem KpF.bs {S : FS} {k : Nat} (h : KpF S k) : ∀ x ∈ S.rc, Bs x ∧ x.length ≤ 125 := fun x hx => ⟨(h.ok x hx).2, okM_short (h.ok x hx).2 (h.ok x hx).1⟩
/-- a submission. -/
theorem kp_sub {S : FS} {L : LS} {k : Nat} (hF : KpF S k) (hL : KpL S L k) (hk : k ≤ 25) (b : List Int) (hok : okM b = true) (hb : Bs b) (now : Int) :
    ∃ kk nn S', subP L.its S b now = (kk, nn, S') ∧ KpF S' (k + 1) ∧ KpL S' L (k + 1) ∧
      ((kk = 1 ∧ nn = (S.rc.length : Int) ∧ S'.rc = S.rc ++ [b]) ∨ (∃ j : Nat, kk = 1 ∧ nn = (j : Int) ∧ ∃ h : j < S.rc.length, S.rc[j] = b ∧ S'.rc = S.rc) ∨ ((kk = 2 ∨ kk = 3) ∧ S'.rc = S.rc)) := by
  have hF1 : KpF S (k + 1) := ⟨hF.1, hF.2, hF.3, hF.4, hF.5, hF.6, by have := hF.m; omega, by have := hF.len; omega⟩
  have hL1 : KpL S L (k + 1) := by
    obtain ⟨rs, h1, h2, h3, h4⟩ := hL.dd
    exact ⟨hL.1, hL.2, hL.3, ⟨rs, h1, h2, h3, by omega⟩, by have := hL.mj; omega, hL.dk⟩
  unfold subP
  rw [if_neg (by rw [hok]; decide)]
  by_cases hin : b ∈ L.its
  · exact ⟨2, _, S, by rw [if_pos hin], hF1, hL1, .inr (.inr ⟨.inl rfl, rfl⟩)⟩
  rw [if_neg hin]
  by_cases hw : S.ms.any (sameI b) = true
  · have hwb : b ∈ S.ms.map It.bs := by rw [any_same] at hw; exact of_decide_eq_true hw
    have hrc : b ∈ S.rc := hL.sub b (List.mem_append.2 (.inr hwb))
    exact ⟨1, _, S, by rw [if_pos hw, if_pos hrc], hF1, hL1, .inr (.inl ⟨S.rc.idxOf b, rfl, rfl, List.idxOf_lt_length_iff.2 hrc, List.getElem_idxOf _, rfl⟩)⟩
  rw [if_neg hw]
  have hwb : b ∉ S.ms.map It.bs := by rw [any_same] at hw; exact of_decide_eq_false (by simpa using hw)
  by_cases hroom : S.room ≤ S.ms.length
  · exact ⟨3, 0, S, by rw [if_pos hroom], hF1, hL1, .inr (.inr ⟨.inr rfl, rfl⟩)⟩
  rw [if_neg hroom]
  have hnew : b ∉ S.rc := fun h => (hL.all b h).elim hin hwb
  have hbl := okM_short hb hok
  have hlay := layP_len S.rc 125 (fun r hr => (hF.bs r hr).2)
  have hmul : S.rc.length * (8 + 125) ≤ 25 * (8 + 125) := Nat.mul_le_mul_right _ (by have := hF.len; omega)
  obtain ⟨er, d', hadd, h1, h2⟩ := str_add hF.st b ⟨hok, hb, hnew⟩ (by rw [recP_len]; omega)
  rw [hadd]
  cases er
  · refine ⟨3, 0, S.tried d', by simp, ⟨hF.1, hF.2, hF.3, h2 rfl, hF.5, hF.6, by show S.m + 1 ≤ k + 1; have := hF.m; omega, by have := hF.len; show S.rc.length ≤ k + 1; omega⟩, ⟨hL1.1, hL1.2, hL1.3, hL1.4, hL1.5, hL1.6⟩, .inr (.inr ⟨.inr rfl, rfl⟩)⟩
  · obtain ⟨a, ha, rfl⟩ := h1 rfl
    have hmb : (S.ms ++ [It.mk b now]).map It.bs = S.ms.map It.bs ++ [b] := by rw [List.map_append]; rfl
    refine ⟨1, _, S.put (upR (S.rc ++ [b]) a) b now, by rw [if_pos rfl], ⟨hF.1, hF.2, hF.3, .inl ⟨a, ha, rfl⟩, ?_, ?_, by show S.m + 1 ≤ k + 1; have := hF.m; omega, by show (S.rc ++ [b]).length ≤ k + 1; rw [List.length_append]; have := hF.len; simp; omega⟩, ⟨?_, ?_, ?_, hL1.4, hL1.5, hL1.6⟩, .inl ⟨rfl, rfl, rfl⟩⟩
    · intro x hx
      rcases List.mem_append.1 hx with hx | hx
      · exact hF.ok x hx
      · obtain rfl : x = b := by simpa using hx
        exact ⟨hok, hb⟩
    · show (S.rc ++ [b]).Nodup
      rw [List.nodup_append]
      exact ⟨hF.nd, by simp, fun y hy z hz => by simp at hz; subst hz; exact fun e => hnew (e ▸ hy)⟩
    · intro x hx
      show x ∈ L.its ∨ x ∈ (S.ms ++ [It.mk b now]).map It.bs
      rw [hmb]
      rcases List.mem_append.1 hx with hx | hx
      · exact (hL.all x hx).imp id (fun h => List.mem_append.2 (.inl h))
      · exact .inr (List.mem_append.2 (.inr hx))
    · show (L.its ++ (S.ms ++ [It.mk b now]).map It.bs).Nodup
      rw [hmb, ← List.append_assoc, List.nodup_append]
      refine ⟨hL.nd, by simp, fun y hy z hz => ?_⟩
      simp at hz
      subst hz
      intro e
      subst e
      rcases List.mem_append.1 hy with h | h
      · exact hin h
      · exact hwb h
    · intro x hx
      show x ∈ S.rc ++ [b]
      have hx : x ∈ L.its ++ (S.ms ++ [It.mk b now]).map It.bs := hx
      rw [hmb, ← List.append_assoc] at hx
      rcases List.mem_append.1 hx with hx | hx
      · exact List.mem_append.2 (.inl (hL.sub x hx))
      · exact List.mem_append.2 (.inr hx)
theorem map_evr (xs : List (List Int)) : (xs.map evr).map It.bs = xs := by
  induction xs with
  | nil => rfl
  | cons x l ih => simp only [List.map_cons, ih]; rfl
theorem nodup_le {l m : List (List Int)} (h : l.Nodup) (hs : ∀ x ∈ l, x ∈ m) : l.length ≤ m.length := by
  induction l generalizing m with
  | nil => simp
  | cons a l ih =>
    have h1 := List.nodup_cons.1 h
    have hm := hs a (by simp)
    have := ih h1.2 (m := m.erase a) (fun x hx => (List.mem_erase_of_ne (show x ≠ a from fun e => h1.1 (by rw [← e]; exact hx))).2 (hs x (by simp [hx])))
    rw [List.length_erase_of_mem hm] at this
    have hpos : 0 < m.length := List.length_pos_of_mem hm
    simp only [List.length_cons]
    omega
/-- a step that is due. -/
theorem kp_step {S : FS} {L : LS} {k : Nat} (hF : KpF S k) (hL : KpL S L k) (hk : k ≤ 25) (n : Nat) (hn : n = min S.size.toNat S.ms.length) (hn0 : 0 < n) (xs : List (List Int)) (hxs : xs = (S.ms.take n).map It.bs) :
    ∃ er dd', L.dd.add (recP (batU xs)) = (er, dd') ∧ KpF { S with ms := if er then S.ms.drop n else xs.map evr ++ S.ms.drop n } (k + 1) ∧ KpL { S with ms := if er then S.ms.drop n else xs.map evr ++ S.ms.drop n } { L with dd := dd', mj := L.mj + 1, its := if er then L.its ++ xs else L.its } (k + 1) ∧ (L.its ++ xs).Nodup ∧ (L.its ++ xs).length ≤ 25 ∧ S.ms.length ≤ 25 := by
  have hsz := hF.size
  have hxl : xs.length = n := by rw [hxs]; simp; omega
  have hn3 : n ≤ 3 := by omega
  have hsplit : S.ms.map It.bs = xs ++ (S.ms.drop n).map It.bs := by rw [hxs, ← List.map_append, List.take_append_drop]
  have hxs_mem : ∀ x ∈ xs, x ∈ S.rc := fun x hx => hL.sub x (List.mem_append.2 (.inr (by rw [hsplit]; exact List.mem_append.2 (.inl hx))))
  have hnd2 : (L.its ++ xs).Nodup := by
    have := hL.nd
    rw [hsplit, ← List.append_assoc] at this
    exact (List.nodup_append.1 this).1
  have hlen2 : (L.its ++ S.ms.map It.bs).length ≤ S.rc.length := nodup_le hL.nd hL.sub
  have hrl := hF.len
  obtain ⟨rs, g1, g2, g3, g4⟩ := hL.dd
  have hbl := batU_len xs 125 (fun x hx => (hF.bs x (hxs_mem x hx)).2)
  rw [hxl] at hbl
  have hm3 : n * (2 + 125) ≤ 3 * (2 + 125) := Nat.mul_le_mul_right _ hn3
  have hbB : Bs (batU xs) := batU_bs (fun x hx => (hF.bs x (hxs_mem x hx)).1)
  have hxne : xs ≠ [] := fun e => by rw [e] at hxl; simp at hxl; omega
  have hgat : gatU [] (rs ++ [batU xs]) = some (L.its ++ xs) := gatU_add g1 hnd2 hxne (fun x hx => by have := (hF.bs x (hxs_mem x hx)).2; omega) (by omega)
  have hlay := layP_len rs 400 (fun r hr => (g3 r hr).2)
  have hmul : rs.length * (8 + 400) ≤ 25 * (8 + 400) := Nat.mul_le_mul_right _ (by omega)
  obtain ⟨er, dd', hadd, h1, h2⟩ := str_add g2 (batU xs) ⟨by omega, hbB, xs, hgat, by omega⟩ (by rw [recP_len]; omega)
  have hl25 : (L.its ++ xs).length ≤ 25 := by rw [List.length_append, List.length_map] at hlen2; rw [List.length_append]; omega
  have hm25 : S.ms.length ≤ 25 := by rw [List.length_append, List.length_map] at hlen2; omega
  refine ⟨er, dd', hadd, ⟨hF.1, hF.2, hF.3, hF.4, hF.5, hF.6, by have := hF.m; show S.m ≤ k + 1; omega, by show S.rc.length ≤ k + 1; omega⟩, ?_, hnd2, hl25, hm25⟩
  cases er
  · have hmm : ((if false = true then S.ms.drop n else xs.map evr ++ S.ms.drop n)).map It.bs = S.ms.map It.bs := by
      simp only [Bool.false_eq_true, if_false]
      rw [List.map_append, map_evr, hsplit]
    refine ⟨?_, ?_, ?_, ⟨rs, g1, h2 rfl, g3, by omega⟩, by show L.mj + 1 ≤ k + 1; have := hL.mj; omega, hL.dk⟩
    · intro x hx
      show x ∈ L.its ∨ x ∈ ((if false = true then S.ms.drop n else xs.map evr ++ S.ms.drop n)).map It.bs
      rw [hmm]
      exact hL.all x hx
    · show (L.its ++ ((if false = true then S.ms.drop n else xs.map evr ++ S.ms.drop n)).map It.bs).Nodup
      rw [hmm]
      exact hL.nd
    · intro x hx
      have hx : x ∈ L.its ++ ((if false = true then S.ms.drop n else xs.map evr ++ S.ms.drop n)).map It.bs := hx
      rw [hmm] at hx
      exact hL.sub x hx
  · obtain ⟨a, ha, rfl⟩ := h1 rfl
    have e1 : ∀ x, x ∈ (L.its ++ xs) ++ (S.ms.drop n).map It.bs ↔ x ∈ L.its ++ S.ms.map It.bs := fun x => by rw [hsplit, List.append_assoc]
    refine ⟨?_, ?_, ?_, ⟨rs ++ [batU xs], hgat, .inl ⟨a, ha, rfl⟩, ?_, by rw [List.length_append]; simp; omega⟩, by show L.mj + 1 ≤ k + 1; have := hL.mj; omega, hL.dk⟩
    · intro x hx
      show x ∈ L.its ++ xs ∨ x ∈ (S.ms.drop n).map It.bs
      exact List.mem_append.1 ((e1 x).2 (List.mem_append.2 (hL.all x hx)))
    · show ((L.its ++ xs) ++ (S.ms.drop n).map It.bs).Nodup
      rw [List.append_assoc, ← hsplit]
      exact hL.nd
    · intro x hx
      exact hL.sub x ((e1 x).1 hx)
    · intro r hr
      rcases List.mem_append.1 hr with hr | hr
      · exact g3 r hr
      · obtain rfl : r = batU xs := by simpa using hr
        exact ⟨hbB, by omega⟩
section
variable {w0 w w' : World} {x p l pd pl pk : Nat} {S : FS} {L : LS} {g f : Fps} {vw vrc vq : Value}
theorem farm_any (h : Fg w0 w p l pd S g) (n : Int) (hn : n ≤ 9223372036854775807) (d' : Dk) (he : S.d.armed (max n 0) = d') : Calls Tryz.prog 22 #[.pointer (some ⟨pd, 0, none⟩), .int .i64 n] w fun e w' => e = .returned (.tuple #[]) ∧ ∃ g', Fg w0 w' p l pd { S with d := d' } g' ∧ Stp g.tot w w' g'.tot := by
  obtain ⟨j, q, vr, hx⟩ := h
  obtain ⟨v, m, h1, hJ, h3, h4⟩ := hx.jx
  refine (nw_arm hJ.nw n hn he).mono ?_
  rintro e w' ⟨rfl, N, T⟩
  obtain ⟨F', J', T'⟩ := Jx.stepD ⟨m, h1, hJ, h3, h4⟩ N T
  exact ⟨rfl, g.upd 3 F', ⟨j, q, vr, hx.stepJ T' J'⟩, T'.one⟩
theorem wz_arm (h : Wz w0 w x p l pd pl pk S L g f vw vrc vq) (n : Int) (hn : n ≤ 9223372036854775807) (d' : Dk) (he : S.d.armed (max n 0) = d') : Calls Tryz.prog 22 #[.pointer (some ⟨pd, 0, none⟩), .int .i64 n] w fun e w' => e = .returned (.tuple #[]) ∧ ∃ g', Wz w0 w' x p l pd pl pk { S with d := d' } L g' f vw vrc vq ∧ Stp (two2 g f) w w' (two2 g' f) := by
  refine (farm_any h.bo.fr n hn d' he).mono ?_
  rintro e w' ⟨rfl, g', F', T⟩
  obtain ⟨B', T'⟩ := h.bo.stepF F' T
  exact ⟨rfl, g', ⟨B', T'.heap h.at_ h.nx, T'.off h.at_.lt h.nx, h.x0⟩, T'⟩
theorem wz_armD (h : Wz w0 w x p l pd pl pk S L g f vw vrc vq) (n : Int) (hn : n ≤ 9223372036854775807) (d' : Dk) (he : L.dd.armed (max n 0) = d') : Calls Tryz.prog 22 #[.pointer (some ⟨pl, 0, none⟩), .int .i64 n] w fun e w' => e = .returned (.tuple #[]) ∧ ∃ f', Wz w0 w' x p l pd pl pk S { L with dd := d' } g f' vw vrc vq ∧ Stp (two2 g f) w w' (two2 g f') := by
  refine (uarmD_any h.bo.lg n hn d' he).mono ?_
  rintro e w' ⟨rfl, f', F', T⟩
  obtain ⟨B', T'⟩ := h.bo.stepL F' T
  exact ⟨rfl, f', ⟨B', T'.heap h.at_ h.nx, T'.off h.at_.lt h.nx, h.x0⟩, T'⟩
theorem wz_armK (h : Wz w0 w x p l pd pl pk S L g f vw vrc vq) (n : Int) (hn : n ≤ 9223372036854775807) (d' : Dk) (he : L.dk.armed (max n 0) = d') : Calls Tryz.prog 22 #[.pointer (some ⟨pk, 0, none⟩), .int .i64 n] w fun e w' => e = .returned (.tuple #[]) ∧ ∃ f', Wz w0 w' x p l pd pl pk S { L with dk := d' } g f' vw vrc vq ∧ Stp (two2 g f) w w' (two2 g f') := by
  refine (uarmK_any h.bo.lg n hn d' he).mono ?_
  rintro e w' ⟨rfl, f', F', T⟩
  obtain ⟨B', T'⟩ := h.bo.stepL F' T
  exact ⟨rfl, f', ⟨B', T'.heap h.at_ h.nx, T'.off h.at_.lt h.nx, h.x0⟩, T'⟩
theorem Ds.beside {dd dk : Dk} {T : List Nat} (h : Ds w0 w pl pk dd dk f) (k : Kp T w w') (hT : ∀ i ∈ T, w0.heap.size ≤ i ∧ ¬ f.tot i) : Ds w0 w' pl pk dd dk f := by
  have k0 : Kp [] w0 w' := h.ok.kp.then k (fun i hi => .inr (hT i hi).1)
  have no : ∀ a, ∀ i ∈ T, ¬ f a i := fun a i hi ha => (hT i hi).2 ⟨a, ha⟩
  exact ⟨⟨k0, h.ok.ap, fun a i hi => ⟨(h.ok.rng a i hi).1, Nat.lt_of_lt_of_le (h.ok.rng a i hi).2 k.size⟩⟩, h.d.kept k k0 (no 5), h.k.kept k k0 (no 6)⟩
/-- the three disks, when front and ledger are left. -/
structure Dz (w0 w : World) (pd pl pk : Nat) (d dd dk : Dk) (F : Nat → Prop) (f : Fps) : Prop where
  d : Dx w0 w pd d F
  s : Ds w0 w pl pk dd dk f
  ap : ∀ i, F i → ¬ f.tot i
  rng : ∀ i, F i → w0.heap.size ≤ i ∧ i < w.heap.size
theorem Bo.dz (h : Bo w0 w p l pd pl pk S L g f) : Dz w0 w pd pl pk S.d L.dd L.dk g.tot f := by
  obtain ⟨j, q, vr, hx⟩ := id h.fr
  exact ⟨hx.jx.dx.upd (fun i hi => ⟨3, hi⟩), h.lg.ds, h.ap, h.fr.lt⟩
section
variable {d dd dk d' : Dk} {F : Nat → Prop}
theorem Dz.on (h : Dz w0 w pd pl pk d dd dk F f) (k : Kp [] w w') : Dz w0 w' pd pl pk d dd dk F f :=
  ⟨h.d.kept k (h.d.kp0.trans k) (by simp), h.s.on k, h.ap, fun i hi => ⟨(h.rng i hi).1, Nat.lt_of_lt_of_le (h.rng i hi).2 k.size⟩⟩
theorem Dz.srng (h : Dz w0 w pd pl pk d dd dk F f) : ∀ i, f.tot i → w0.heap.size ≤ i ∧ i < w.heap.size := fun i ⟨a, ha⟩ => h.s.ok.rng a i ha
theorem dz_crash (h : Dz w0 w pd pl pk d dd dk F f) (n : Int) (he : d.crash n = d') : Calls Tryz.prog 25 #[.pointer (some ⟨pd, 0, none⟩), .int .i64 n] w fun e w' => e = .returned (.tuple #[]) ∧ ∃ F', Dz w0 w' pd pl pk d' dd dk F' f ∧ Stp (fun i => F i ∨ f.tot i) w w' (fun i => F' i ∨ f.tot i) := by
  obtain ⟨v, N, hv⟩ := h.d
  refine (nw_crash N n he).mono ?_
  rintro e w' ⟨rfl, v', N', T⟩
  obtain ⟨F', D', T', hF⟩ := Dx.stepD hv N' T
  obtain ⟨U, hU, k⟩ := T'.kp
  refine ⟨rfl, F', ⟨D', h.s.beside k (fun i hi => ⟨(h.rng i (hU i hi)).1, h.ap i (hU i hi)⟩), fun i hi hf => ?_, fun i hi => ?_⟩, T'.side f.tot⟩
  · rcases T'.2 i hi with h1 | h1
    · exact h.ap i h1 hf
    · have := (h.srng i hf).2; omega
  · rcases T'.2 i hi with h1 | h1
    · exact ⟨(h.rng i h1).1, Nat.lt_of_lt_of_le (h.rng i h1).2 k.size⟩
    · have := h.d.kp0.size
      omega
theorem Dz.stepS {dd' dk' : Dk} {f' : Fps} (h : Dz w0 w pd pl pk d dd dk F f) (hS : Ds w0 w' pl pk dd' dk' f') (T : Stp f.tot w w' f'.tot) : Dz w0 w' pd pl pk d dd' dk' F f' ∧ Stp (fun i => F i ∨ f.tot i) w w' (fun i => F i ∨ f'.tot i) := by
  obtain ⟨U, hU, k⟩ := T.kp
  refine ⟨⟨h.d.kept k hS.ok.kp (fun i hi hF => h.ap i hF (hU i hi)), hS, fun i hi hf => ?_, fun i hi => ⟨(h.rng i hi).1, Nat.lt_of_lt_of_le (h.rng i hi).2 k.size⟩⟩, (T.side F).cong (fun i hi => hi.symm) (fun i hi => hi.symm)⟩
  rcases T.2 i hf with h1 | h1
  · exact h.ap i hi h1
  · have := (h.rng i hi).2; omega
theorem dz_crashD (h : Dz w0 w pd pl pk d dd dk F f) (n : Int) (he : dd.crash n = d') : Calls Tryz.prog 25 #[.pointer (some ⟨pl, 0, none⟩), .int .i64 n] w fun e w' => e = .returned (.tuple #[]) ∧ ∃ f', Dz w0 w' pd pl pk d d' dk F f' ∧ Stp (fun i => F i ∨ f.tot i) w w' (fun i => F i ∨ f'.tot i) := by
  refine (ds_crashD h.s n he).mono ?_
  rintro e w' ⟨rfl, f', S', T⟩
  exact ⟨rfl, f', h.stepS S' T⟩
theorem dz_crashK (h : Dz w0 w pd pl pk d dd dk F f) (n : Int) (he : dk.crash n = d') : Calls Tryz.prog 25 #[.pointer (some ⟨pk, 0, none⟩), .int .i64 n] w fun e w' => e = .returned (.tuple #[]) ∧ ∃ f', Dz w0 w' pd pl pk d dd d' F f' ∧ Stp (fun i => F i ∨ f.tot i) w w' (fun i => F i ∨ f'.tot i) := by
  refine (ds_crashK h.s n he).mono ?_
  rintro e w' ⟨rfl, f', S', T⟩
  exact ⟨rfl, f', h.stepS S' T⟩
end
end
end Go.Proofs.YteabdojjllfcpaaGreat

/-
  The law's world beside a front, its ledger and their disks: what stays while they step; power comes back, both are opened anew.
-/
namespace Go.Proofs.YteabdojjllfcpaaGreat
open Go.RowKit
open Go.Proofs
open Go.Deep Go.ChangeShapes Go.WideShapes
set_option linter.unusedVariables false
section
variable {H : Type} {enc : TypeId × Value → H} {w : World}
set_option maxRecDepth 100000 in
theorem arr3_open {base : Nat} {v : Value} {d : DataW H} {p : List MemPlace} (hv : Value.okWide Tryz.prog w .any base 43 v) (h : DataW.Trod enc Tryz.prog w 0 (fun _ => true) true 43 v d p) : ∃ x0 x1 x2, v = .agg #[.int .i64 x0, .int .i64 x1, .int .i64 x2] ∧ (-9223372036854775808 ≤ x0 ∧ x0 ≤ 9223372036854775807) ∧ (-9223372036854775808 ≤ x1 ∧ x1 ≤ 9223372036854775807) ∧ (-9223372036854775808 ≤ x2 ∧ x2 ≤ 9223372036854775807) := by
  have hc : Tryz.prog.cellsOf 43 = 3 := by kernel_rfl
  simp only [Value.okWide, Tryz.underlying43] at hv
  obtain ⟨cs, rfl, h2, -⟩ := hv
  rw [hc] at h2
  obtain ⟨c0, c1, c2, rfl⟩ : ∃ c0 c1 c2, cs = #[c0, c1, c2] := by
    obtain ⟨l⟩ := cs
    match l, h2 with
    | [a, b, c], _ => exact ⟨a, b, c, rfl⟩
  obtain ⟨fuel, hf⟩ := h
  obtain ⟨y0, y1, y2, n, -, t0, t1, t2⟩ := trod_array3 Tryz.underlying43 (by kernel_rfl) hf
  obtain ⟨x0, e0, _, b0⟩ := DataW.trod_int Tryz.underlying3 t0
  obtain ⟨x1, e1, _, b1⟩ := DataW.trod_int Tryz.underlying3 t1
  obtain ⟨x2, e2, _, b2⟩ := DataW.trod_int Tryz.underlying3 t2
  simp only [List.cons.injEq, and_true] at e0 e1 e2
  subst e0 e1 e2
  exact ⟨x0, x1, x2, rfl, bounds_i64 b0, bounds_i64 b1, bounds_i64 b2⟩
end
/-- the slice of the three disks. -/
def Tri3 (w : World) (b pd pl pk : Nat) : Prop := w.heap[b]? = some (.cells #[.pointer (some ⟨pd, 0, none⟩), .pointer (some ⟨pl, 0, none⟩), .pointer (some ⟨pk, 0, none⟩)] 26 (0, 0))
/-- three numbers in a box. -/
def Box3 (w : World) (b : Nat) (x0 x1 x2 : Int) : Prop := w.heap[b]? = some (.cells #[.int .i64 x0, .int .i64 x1, .int .i64 x2] 43 (0, 0))
def pick3 {α : Type} (k : Nat) (a b c : α) : α := if k = 0 then a else if k = 1 then b else c
theorem Tri3.cell {w : World} {b pd pl pk : Nat} (h : Tri3 w b pd pl pk) (k : Nat) (hk : k < 3) : w.cell? ⟨b, k, none⟩ = some (.pointer (some ⟨pick3 k pd pl pk, 0, none⟩)) := by
  rcases (by omega : k = 0 ∨ k = 1 ∨ k = 2) with rfl | rfl | rfl <;> (rw [cell_of_row w b _ _ _ _ h]; rfl)
theorem Box3.cell {w : World} {b : Nat} {x0 x1 x2 : Int} (h : Box3 w b x0 x1 x2) (k : Nat) (hk : k < 3) : w.cell? ⟨b, k, none⟩ = some (.int .i64 (pick3 k x0 x1 x2)) := by
  rcases (by omega : k = 0 ∨ k = 1 ∨ k = 2) with rfl | rfl | rfl <;> (rw [cell_of_row w b _ _ _ _ h]; rfl)
/-- the slice of the disks, new. -/
def DT (b pd pl pk : Nat) : Tell := fun v w => ∃ g, v = .slice (some ⟨g, 0, none⟩) 3 3 ∧ b ≤ g ∧ Tri3 w g pd pl pk
theorem stable_dt (b pd pl pk : Nat) : Tell.stable (DT b pd pl pk) := fun _ _ _ k ⟨g, e, hb, h⟩ => ⟨g, e, hb, k.heap h (by simp)⟩
/-- the law's own things, beside the blocks G: its world, its slice of disks, the texts that it gathers. -/
structure Sd (w0 w : World) (G : Nat → Prop) (x : Nat) (vf vl : Value) (pd pl pk : Nat) (vw : Value) (bd : Nat) (got : Value) (la : List (Value × List Int)) : Prop where
  at_ : Wd w x vf vl (.pointer (some ⟨pd, 0, none⟩)) (.pointer (some ⟨pl, 0, none⟩)) (.pointer (some ⟨pk, 0, none⟩)) 8 3 5 vw (.slice none 0 0) (.slice none 0 0)
  nx : ¬ G x
  tri : Tri3 w bd pd pl pk
  nb : ¬ G bd
  al : Al w0 w (fun i => G i ∨ i = x ∨ i = bd) got la
  low : ∀ i, G i → i < w.heap.size
section
variable {w0 w w' : World} {G G' : Nat → Prop} {x p l pd pl pk bd : Nat} {vf vl vw got got' : Value} {la : List (Value × List Int)}
theorem Sd.step (h : Sd w0 w G x vf vl pd pl pk vw bd got la) (T : Stp G w w' G') (hlow : ∀ i, G' i → i < w'.heap.size) : Sd w0 w' G' x vf vl pd pl pk vw bd got la := by
  obtain ⟨U, hU, k⟩ := T.kp
  have hbl : bd < w.heap.size := (Array.getElem?_eq_some_iff.1 h.tri).1
  exact ⟨h.at_.kept k (fun hm => h.nx (hU x hm)), T.off h.at_.lt h.nx, k.heap h.tri (fun hm => h.nb (hU bd hm)), T.off hbl h.nb, h.al.step (T.side _), hlow⟩
theorem Sd.on (h : Sd w0 w G x vf vl pd pl pk vw bd got la) (k : Kp [] w w') : Sd w0 w' G x vf vl pd pl pk vw bd got la := h.step (Stp.mid k) (fun i hi => Nat.lt_of_lt_of_le (h.low i hi) k.size)
theorem Sd.lows (h : Sd w0 w G x vf vl pd pl pk vw bd got la) : ∀ i, (G i ∨ i = x ∨ i = bd) → i < w.heap.size := by
  rintro i (hi | rfl | rfl)
  · exact h.low i hi
  · exact h.at_.lt
  · exact (Array.getElem?_eq_some_iff.1 h.tri).1
/-- one more text. -/
theorem Sd.put {y : Value × List Int} (h : Sd w0 w G x vf vl pd pl pk vw bd got la) (r : RowsQ w' w0.heap.size got' (la ++ [y])) (s : RStep w got w' got') (hy : ∀ k, y.1.ownBlock = some k → k < w.heap.size ∧ ¬ (G k ∨ k = x ∨ k = bd)) : Sd w0 w' G x vf vl pd pl pk vw bd got' (la ++ [y]) := by
  have hm : ∀ i, (G i ∨ i = x ∨ i = bd) → i ∉ got.ownBlock.toList := fun i hi hm => (h.al.own i (by simpa [Option.mem_toList] using hm)).2 hi
  exact ⟨h.at_.kept s.1 (hm x (.inr (.inl rfl))), h.nx, s.1.heap h.tri (hm bd (.inr (.inr rfl))), h.nb, h.al.put h.lows r s hy, fun i hi => Nat.lt_of_lt_of_le (h.low i hi) s.1.size⟩
end
section
variable {w0 w w' : World} {x p l pd pl pk : Nat} {d dd dk : Dk} {F : Nat → Prop} {f : Fps}
/-- the ledger is opened anew. -/
theorem dz_open (h : Dz w0 w pd pl pk d dd dk F f) (vs : Value) (seed : List Int) (hS : Sl w vs seed) (hsB : Bs seed) (hl : seed.length = 32) (hsk : ∀ k, vs.ownBlock = some k → ¬ f.tot k) (dn : dd.down = false) (da : dd.arm ≤ 0) (kd : dk.down = false) (ka : dk.arm ≤ 0) {at_ : Nat} (ho : opnP dk.bs = ([], at_, true)) {rs : List (List Int)} {at2 : Nat} (hop : opnP dd.bs = (rs, at2, true)) {its : List (List Int)} (hits : gatU [] rs = some its) (h256 : its.length ≤ 256) (hrB : ∀ r ∈ rs, Bs r) (hlr : lenU rs ≤ 100000) (hrn : rs.length ≤ 200000) :
    Calls Tryz.prog 9 #[.pointer (some ⟨pl, 0, none⟩), .pointer (some ⟨pk, 0, none⟩), vs] w fun e w' => ∃ l, e = .returned (.tuple #[.pointer (some ⟨l, 0, none⟩), .int .i64 0]) ∧ ∃ f' L, Lg w0 w' l pl pk L f' ∧ L.its = its ∧ Dx w0 w' pd d F ∧ (∀ i, F i → ¬ f'.tot i) ∧ (∀ i, F i → w0.heap.size ≤ i ∧ i < w'.heap.size) ∧ Stp (fun i => F i ∨ f.tot i) w w' (fun i => F i ∨ f'.tot i) := by
  refine (uopen_ok (dd' := dd.opn) (dk' := dk.opn) (n := 0) vs seed hS hsB hl hsk h.s.ok h.s.d dn da h.s.k kd ka rfl (by omega) ho rfl rfl hop rfl hits h256 hrB hlr hrn).mono ?_
  rintro e w' ⟨l, rfl, f', L', T⟩
  obtain ⟨U, hU, k⟩ := T.kp
  refine ⟨l, rfl, f', _, L', rfl, h.d.kept k L'.kp (fun i hi hF => h.ap i hF (hU i hi)), fun i hi hf => ?_, fun i hi => ⟨(h.rng i hi).1, Nat.lt_of_lt_of_le (h.rng i hi).2 k.size⟩, (T.side F).cong (fun i hi => hi.symm) (fun i hi => hi.symm)⟩
  rcases T.2 i hf with h1 | h1
  · exact h.ap i hi h1
  · have := (h.rng i hi).2; omega
end
section
variable {w0 w w' : World} {x p l pd pl pk : Nat} {d dd dk : Dk} {F : Nat → Prop} {f : Fps}
/-- k of the three disks had their power back. -/
def crD (k : Nat) (j : Nat) (d : Dk) (n : Int) : Dk := if j ≤ k then d.crash n else d
theorem dz_crashes {k : Nat} {n0 n1 n2 : Int} (h : Dz w0 w pd pl pk (crD k 1 d n0) (crD k 2 dd n1) (crD k 3 dk n2) F f) (hk : k < 3) : Calls Tryz.prog 25 #[.pointer (some ⟨pick3 k pd pl pk, 0, none⟩), .int .i64 (pick3 k n0 n1 n2)] w fun e w' => e = .returned (.tuple #[]) ∧ ∃ F' f', Dz w0 w' pd pl pk (crD (k + 1) 1 d n0) (crD (k + 1) 2 dd n1) (crD (k + 1) 3 dk n2) F' f' ∧ Stp (fun i => F i ∨ f.tot i) w w' (fun i => F' i ∨ f'.tot i) := by
  rcases (by omega : k = 0 ∨ k = 1 ∨ k = 2) with rfl | rfl | rfl
  · refine (dz_crash h n0 rfl).mono ?_
    rintro e w' ⟨rfl, F', Z, T⟩
    exact ⟨rfl, F', f, Z, T⟩
  · refine (dz_crashD h n1 rfl).mono ?_
    rintro e w' ⟨rfl, f', Z, T⟩
    exact ⟨rfl, F, f', Z, T⟩
  · refine (dz_crashK h n2 rfl).mono ?_
    rintro e w' ⟨rfl, f', Z, T⟩
    exact ⟨rfl, F, f', Z, T⟩
end
/-- behind the crash: what stands on the disks. -/
theorem kp_crash {S : FS} {L : LS} {k : Nat} (hF : KpF S k) (hL : KpL S L k) (hk : k ≤ 25) (n0 n1 n2 : Int) :
    (∃ rs' at_, (S.d.crash n0).down = false ∧ (S.d.crash n0).arm ≤ 0 ∧ opnP (S.d.crash n0).bs = (rs', at_, true) ∧ (S.d.crash n0).opn = dkOn (layP rs') ∧ (∀ r ∈ rs', okM r = true ∧ Bs r ∧ r.length ≤ 125) ∧ rs'.Nodup ∧ ∃ t, t.length ≤ 1 ∧ rs' = S.rc ++ t) ∧
    (∃ rs at_ its, (L.dd.crash n1).down = false ∧ (L.dd.crash n1).arm ≤ 0 ∧ opnP (L.dd.crash n1).bs = (rs, at_, true) ∧ gatU [] rs = some its ∧ its.length ≤ 100 ∧ (∀ r ∈ rs, Bs r) ∧ lenU rs ≤ 100000 ∧ rs.length ≤ 100 ∧ True) ∧
    (∃ at_, (L.dk.crash n2).down = false ∧ (L.dk.crash n2).arm ≤ 0 ∧ opnP (L.dk.crash n2).bs = ([], at_, true)) := by
  refine ⟨?_, ?_, ?_⟩
  · obtain ⟨rs', at_, h1, h2, h3, h4, h5⟩ := str_crash hF.st (fun r hr => by have := (hF.bs r hr).2; omega) (fun r hr => by have := okM_short hr.2.1 hr.1; omega) n0
    refine ⟨rs', at_, h1, h2, h3, h4, ?_⟩
    rcases h5 with rfl | ⟨r, hr, rfl⟩
    · exact ⟨fun r hr => ⟨(hF.ok r hr).1, (hF.ok r hr).2, (hF.bs r hr).2⟩, hF.nd, [], by simp, by simp⟩
    · refine ⟨fun y hy => ?_, ?_, [r], by simp, rfl⟩
      · rcases List.mem_append.1 hy with hy | hy
        · exact ⟨(hF.ok y hy).1, (hF.ok y hy).2, (hF.bs y hy).2⟩
        · obtain rfl : y = r := by simpa using hy
          exact ⟨hr.1, hr.2.1, okM_short hr.2.1 hr.1⟩
      · rw [List.nodup_append]
        exact ⟨hF.nd, by simp, fun y hy z hz => by simp at hz; subst hz; exact fun e => hr.2.2 (e ▸ hy)⟩
  · obtain ⟨rs, g1, g2, g3, g4⟩ := hL.dd
    have hlen2 : (L.its ++ S.ms.map It.bs).length ≤ S.rc.length := nodup_le hL.nd hL.sub
    rw [List.length_append] at hlen2
    have hrl := hF.len
    have hlu : ∀ (l : List (List Int)) (m : Nat), (∀ r ∈ l, r.length ≤ m) → lenU l ≤ l.length * m := fun l m h => by
      induction l with
      | nil => simp [lenU]
      | cons a l ih =>
        have h1 := h a (by simp)
        have h2 := ih (fun r hr => h r (by simp [hr]))
        unfold lenU at h2 ⊢
        simp only [List.map_cons, List.sum_cons, List.length_cons, Nat.add_mul, Nat.one_mul] at h2 ⊢
        omega
    have hl1 := hlu rs 400 (fun r hr => (g3 r hr).2)
    obtain ⟨rs', at_, h1, h2, h3, h4, h5⟩ := str_crash g2 (fun r hr => by have := (g3 r hr).2; omega) (fun r hr => hr.1) n1
    rcases h5 with rfl | ⟨r, ⟨q1, q2, xs, q3, q4⟩, rfl⟩
    · exact ⟨_, at_, L.its, h1, h2, h3, g1, by omega, fun r hr => (g3 r hr).1, by omega, by omega, trivial⟩
    · refine ⟨_, at_, _, h1, h2, h3, q3, by rw [List.length_append]; omega, fun y hy => ?_, ?_, by rw [List.length_append]; simp; omega, trivial⟩
      · rcases List.mem_append.1 hy with hy | hy
        · exact (g3 y hy).1
        · obtain rfl : y = r := by simpa using hy
          exact q2
      · have : lenU (rs ++ [r]) = lenU rs + r.length := by unfold lenU; rw [List.map_append, List.sum_append]; simp
        omega
  · obtain ⟨rs', at_, h1, h2, h3, h4, h5⟩ := str_crash hL.dk (by simp) (fun r hr => hr.elim) n2
    rcases h5 with rfl | ⟨r, hr, -⟩
    · exact ⟨at_, h1, h2, h3⟩
    · exact hr.elim
/-- what a receipt's text is told behind the crash. -/
theorem kp_told (its rs : List (List Int)) (d : Dk) (n : Nat) (i : Nat) (hi : i < rs.length) (b : List Int) (hb : b = rs[i]) (hnd : rs.Nodup) (hok : okM b = true) (now : Int) :
    ∃ kk nn, subP its ⟨8, 3, 5, (lackP its rs).map evr, rs, d, n⟩ b now = (kk, nn, ⟨8, 3, 5, (lackP its rs).map evr, rs, d, n⟩) ∧ ((b ∈ its ∧ kk = 2) ∨ (b ∉ its ∧ kk = 1 ∧ nn = (i : Int))) := by
  have hmem : b ∈ rs := by rw [hb]; exact List.getElem_mem hi
  unfold subP
  rw [if_neg (by rw [hok]; decide)]
  by_cases hin : b ∈ its
  · exact ⟨2, _, by rw [if_pos hin], .inl ⟨hin, rfl⟩⟩
  · rw [if_neg hin]
    have hw : ((lackP its rs).map evr).any (sameI b) = true := by
      rw [any_same, map_evr]
      exact decide_eq_true (by unfold lackP; simp [hmem, hin])
    refine ⟨1, i, ?_, .inr ⟨hin, rfl, rfl⟩⟩
    show (if ((lackP its rs).map evr).any (sameI b) = true then _ else _) = _
    rw [if_pos hw]
    show (1, (if b ∈ rs then (rs.idxOf b : Int) else -1), _) = _
    rw [if_pos hmem, hb, List.Nodup.idxOf_getElem hnd]
section
variable {w0 w w' : World} {x p l pd pl pk : Nat} {g f : Fps} {vw : Value}
/-- k of the three disks are armed. -/
def arS (k : Nat) (q0 : Int) : FS := ⟨8, 3, 5, [], [], upR [] (if 1 ≤ k then q0 else 0), 0⟩
def arL (k : Nat) (q1 q2 : Int) : LS := { ls0 (seedX 0) with dd := upR [] (if 2 ≤ k then q1 else 0), dk := upR [] (if 3 ≤ k then q2 else 0) }
theorem wz_arms {vrc vq : Value} {k : Nat} {q0 q1 q2 : Int} (h : Wz w0 w x p l pd pl pk (arS k q0) (arL k q1 q2) g f vw vrc vq) (hk : k < 3) (h0 : 0 ≤ q0 ∧ q0 ≤ 16) (h1 : 0 ≤ q1 ∧ q1 ≤ 16) (h2 : 0 ≤ q2 ∧ q2 ≤ 16) : Calls Tryz.prog 22 #[.pointer (some ⟨pick3 k pd pl pk, 0, none⟩), .int .i64 (pick3 k q0 q1 q2)] w fun e w' => e = .returned (.tuple #[]) ∧ ∃ g' f', Wz w0 w' x p l pd pl pk (arS (k + 1) q0) (arL (k + 1) q1 q2) g' f' vw vrc vq ∧ Stp (two2 g f) w w' (two2 g' f') := by
  rcases (by omega : k = 0 ∨ k = 1 ∨ k = 2) with rfl | rfl | rfl
  · refine (wz_arm h q0 (by omega) (upR [] q0) (upR_arm [] q0 h0.1)).mono ?_
    rintro e w' ⟨rfl, g', Z, T⟩
    exact ⟨rfl, g', f, Z, T⟩
  · refine (wz_armD h q1 (by omega) (upR [] q1) (upR_arm [] q1 h1.1)).mono ?_
    rintro e w' ⟨rfl, f', Z, T⟩
    exact ⟨rfl, g, f', Z, T⟩
  · refine (wz_armK h q2 (by omega) (upR [] q2) (upR_arm [] q2 h2.1)).mono ?_
    rintro e w' ⟨rfl, f', Z, T⟩
    exact ⟨rfl, g, f', Z, T⟩
theorem arS_kp (q0 : Int) (h0 : 0 ≤ q0) : KpF (arS 3 q0) 0 := ⟨rfl, rfl, rfl, .inl ⟨q0, h0, rfl⟩, (by simp [arS]), (by simp [arS]), Nat.le_refl _, Nat.le_refl _⟩
theorem arL_kp (q0 q1 q2 : Int) (h1 : 0 ≤ q1) (h2 : 0 ≤ q2) : KpL (arS 3 q0) (arL 3 q1 q2) 0 := ⟨(by simp [arS]), (by simp [arS, arL, ls0]), (by simp [arS, arL, ls0]), ⟨[], rfl, .inl ⟨q1, h1, rfl⟩, by simp, by simp⟩, Nat.le_refl _, .inl ⟨q2, h2, rfl⟩⟩
/-- what holds ahead of the k-th call. -/
def KpI (w0 w : World) (x p l pd pl pk : Nat) (vw : Value) (bd k : Nat) (ag : Option Addr) (mg cg : Nat) : Prop :=
  ∃ S L g f la, KpF S k ∧ KpL S L k ∧ la.map (·.2) = S.rc ∧ mg = la.length ∧ Wz w0 w x p l pd pl pk S L g f vw (.slice none 0 0) (.slice none 0 0) ∧ Sd w0 w (two2 g f) x (.pointer (some ⟨p, 0, none⟩)) (.pointer (some ⟨l, 0, none⟩)) pd pl pk vw bd (.slice ag mg cg) la
end
end Go.Proofs.YteabdojjllfcpaaGreat

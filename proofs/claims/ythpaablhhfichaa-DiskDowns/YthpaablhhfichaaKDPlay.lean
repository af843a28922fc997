/-
  A slice of asks as an argument; the statements' own play.
-/
import Derived.Test.YthpaablhhfichaaKDDo
import Derived.Test.YthpaablhhfichaaKDLoop
namespace Go.Proofs.Ythpaablhhfichaa
open Go.ChangeShapes Go.WideShapes Go.ChangeAt Go.RowKit
open Go.Proofs
open Go.Deep

/-- one ask as data. -/
structure AskE where
  kind : Int
  n : Int
  v : Value
  bs : List Int
def AskEAt (w : World) (b o : Nat) (x : AskE) : Prop :=
  w.rangeAt b o [.int .i64 x.kind, .int .i64 x.n, x.v] ∧ Sl w x.v x.bs ∧ Bs x.bs ∧ (-9223372036854775808 ≤ x.n ∧ x.n ≤ 9223372036854775807)
/-- v is a slice that reads as the asks l. -/
def AskL (w : World) (v : Value) (l : List AskE) : Prop :=
  ∃ ao c, v = .slice ao l.length c ∧ l.length ≤ 9223372036854775807 ∧ ∀ i (h : i < l.length), ∃ b off, ao = some ⟨b, off, none⟩ ∧ AskEAt w b (off + i * 3) l[i]
theorem AskEAt.kept {w w' : World} {b o : Nat} {x : AskE} (h : AskEAt w b o x) (k : Kp [] w w') : AskEAt w' b o x :=
  ⟨fun j u hu => k.cell (h.1 j u hu) (by simp), h.2.1.kept k (by simp), h.2.2⟩
theorem AskL.kept {w w' : World} {v : Value} {l : List AskE} (h : AskL w v l) (k : Kp [] w w') : AskL w' v l := by
  obtain ⟨ao, c, rfl, h1, h2⟩ := h
  refine ⟨ao, c, rfl, h1, fun i hi => ?_⟩
  obtain ⟨b, off, e, h3⟩ := h2 i hi
  exact ⟨b, off, e, h3.kept k⟩
theorem Try.askEFields : ∃ f0 f1 f2, Try.prog.underlying 30 = some (.struct #[f0, f1, f2]) ∧ (f0.offset = 0 ∧ f1.offset = 1 ∧ f2.offset = 2) ∧ (f0.type = 3 ∧ f1.type = 3 ∧ f2.type = 28) :=
  ⟨_, _, _, Try.underlying30, ⟨rfl, rfl, rfl⟩, ⟨rfl, rfl, rfl⟩⟩
theorem Try.cellsAskE : Try.prog.cellsOf 30 = 3 := by kernel_rfl
theorem Try.cellsIntE : Try.prog.cellsOf 3 = 1 := by kernel_rfl
theorem Try.cellsSlE : Try.prog.cellsOf 28 = 1 := by kernel_rfl
section
variable {H : Type} {enc : TypeId × Value → H} {w : World}
theorem askE_of_trod {a : Addr} {cs : List Value} {n : Nat} {x : DataW H × List MemPlace} (hc : w.cells? 0 a 3 = some cs) (h : DataW.trod enc Try.prog w 0 (fun _ => true) true n 30 cs = some x) :
    a.spot = none ∧ ∃ d, AskEAt w a.block a.off d := by
  obtain ⟨f0, f1, f2, hu, ⟨o0, o1, o2⟩, ⟨t0, t1, t2⟩⟩ := Try.askEFields
  obtain ⟨y0, y1, y2, m, _, hl, h0, h1, h2⟩ := Go.Deep.trod_struct3 hu h
  obtain ⟨_, hlen, hcell⟩ := World.cells?_some hc
  rw [o0, t0, Try.cellsIntE] at h0
  rw [o1, t1, Try.cellsIntE] at h1
  rw [o2, t2, Try.cellsSlE] at h2
  match cs, hlen with
  | [c0, c1, c2], _ =>
    simp only [List.drop_zero, List.drop_succ_cons, List.take_succ_cons, List.take_zero] at h0 h1 h2
    obtain ⟨x0, e0, _, _⟩ := DataW.trod_int Try.underlying3 h0
    obtain ⟨x1, e1, _, w1⟩ := DataW.trod_int Try.underlying3 h1
    obtain ⟨bs, hs, hB⟩ := bytes_of_trod h2
    simp only [List.cons.injEq, and_true] at e0 e1
    subst e0 e1
    obtain ⟨b, off, spot⟩ := a
    have k0 := hcell 0 (by omega)
    have hspot : ((⟨b, off, spot⟩ : Addr).add 0).spot = none := World.cell?_spot (v := .int .i64 x0) (by simpa using k0)
    have hspot' : spot = none := by rw [Addr.add_zero'] at hspot; exact hspot
    subst hspot'
    refine ⟨rfl, ⟨x0, x1, c2, bs⟩, fun j u hu => ?_, hs, hB, bounds_i64 w1⟩
    have hj : j < 3 := by have := (List.getElem?_eq_some_iff.1 hu).1; simpa using this
    have kj := hcell j (by omega)
    rw [Addr.add_lit] at kj
    rw [kj]
    exact hu
theorem askL_of_trod {v : Value} {fuel : Nat} {x : DataW H × List MemPlace} (h : DataW.trod enc Try.prog w 0 (fun _ => true) true fuel 31 [v] = some x) : ∃ l, AskL w v l := by
  rcases open_slice Try.underlying31 h with ⟨hcs, _⟩ | ⟨a, len, cap, m, n, D, Pl, hcs, _, hl, hm, hmm, _, hx⟩
  · simp only [List.cons.injEq, and_true] at hcs
    subst hcs
    exact ⟨[], none, 0, rfl, by simp, fun i hi => by cases hi⟩
  · simp only [List.cons.injEq, and_true] at hcs
    subst hcs
    simp only [if_true] at hmm
    subst hmm
    rw [Try.cellsAskE] at hx
    have key : ∀ i, i < len → ∃ d, (a.add (i * 3)).spot = none ∧ AskEAt w (a.add (i * 3)).block (a.add (i * 3)).off d := fun i hi => by
      obtain ⟨cs', h1, h2⟩ := hx i (by omega)
      obtain ⟨e, d, hd⟩ := askE_of_trod h1 h2
      exact ⟨d, e, hd⟩
    have inst : Inhabited AskE := ⟨⟨0, 0, .slice none 0 0, []⟩⟩
    obtain ⟨F, hF⟩ := @choose_lt AskE inst len (fun i d => (a.add (i * 3)).spot = none ∧ AskEAt w (a.add (i * 3)).block (a.add (i * 3)).off d) key
    have hlen : ((List.range len).map F).length = len := by simp
    refine ⟨(List.range len).map F, some a, m, by rw [hlen], by unfold maxLen at hm; rw [hlen]; omega, fun i hi => ?_⟩
    rw [hlen] at hi
    obtain ⟨s0, _⟩ := hF 0 (by omega)
    obtain ⟨si, hA⟩ := hF i hi
    obtain ⟨b, off, spot⟩ := a
    have hspot : spot = none := by simpa [Addr.add] using s0
    subst hspot
    rw [Addr.add_lit] at hA
    have hg : ((List.range len).map F)[i]'(by rw [hlen]; exact hi) = F i := by simp
    rw [hg]
    exact ⟨b, off, rfl, hA⟩
end
set_option maxHeartbeats 8000000 in
set_option maxRecDepth 100000 in
theorem dplay_any (limit : Int) (vl : Value) (l : List AskE) (w : World) (h0 : 0 ≤ limit) (h1 : limit ≤ 1048576) (hl : AskL w vl l) :
    Calls Try.prog 10 #[.int .i64 limit, vl] w fun e w' => e = .returned (.bool true) ∧ Kp [] w w' := by
  have hNw := hide (nw_new limit w h0 h1)
  have HFT := hide (dk0_fit h0 h1)
  obtain ⟨al, cl, e0, hll, -⟩ := id hl
  have HS0 := hide hl
  obtain ⟨L, hL⟩ : ∃ L, L = l.length := ⟨_, rfl⟩
  rw [← hL] at e0 hll
  subst e0
  have HL := hide hL
  clear hl hL
  go_enter Try.func10, Try.ntmps10
  go_wp2_with (first
    | (go_at_call 9; refine hNw.out.mono ?_; rintro e w1 ⟨p, rfl, N1⟩; clear hNw; have HN1 := hide N1; clear N1))
  have D1 : Hid (Du w (w1.alloc (.cells #[.slice none 0 0, .int .i64 0, .int .i64 limit, .int .i64 0, .bool false] 55)) p (.slice none 0 0) (dk0 limit).nrm w1.heap.size (.slice none 0 0) (dk0 limit)) := by
    refine ⟨HN1.out.on ((Kp.refl [] w1).alloc _), ⟨heap_alloc_new w1 _, ⟨rfl, .inl ⟨rfl, rfl⟩⟩, HFT.out, by decide⟩, HN1.out.kp.size, fun i hi hm => ?_⟩
    have := HN1.out.dk.lt i hi
    rcases mem_dfp.1 hm with rfl | hm
    · omega
    · cases hm
  obtain ⟨q, hq⟩ : ∃ q, q = w1.heap.size := ⟨_, rfl⟩
  obtain ⟨w2, hw2⟩ : ∃ w2, w2 = w1.alloc (.cells #[.slice none 0 0, .int .i64 0, .int .i64 limit, .int .i64 0, .bool false] 55) := ⟨_, rfl⟩
  rw [← hq, ← hw2] at D1
  rw [← hw2]
  rw [← hq]
  clear hq hw2 HN1
  go_loopw [8] (fun i wr => ∃ (k : Nat) (v u : Value) (e : Dk), k ≤ 60 ∧ k ≤ L ∧ i = .int .i64 k ∧ Du w wr p v e.nrm q u e) (fun i _ => 60 - (intOf i).toNat)
  case atStart => exact ⟨0, _, _, _, by omega, Nat.zero_le _, rfl, D1.out⟩
  case round =>
    obtain ⟨k, v, u, e, hk, hkL, rfl, D⟩ := hrel
    have HD := hide D
    clear D
    by_cases hgo : k < L ∧ k < 60
    · obtain ⟨hlt, hlt6⟩ := hgo
      have hlt2 : (k : Int) < (L : Int) := by omega
      have hlt3 : (k : Int) < 60 := by omega
      obtain ⟨ao', c', e', -, hcell⟩ := HS0.out
      injection e' with e1 e2 e3
      subst e1
      obtain ⟨b, off, rfl, hc, hS, hB, hb0, hb1⟩ := hcell k (by rw [← HL.out]; exact hlt)
      generalize l[k]'(by rw [← HL.out]; exact hlt) = x at hc hS hB hb0 hb1
      obtain ⟨kd, n, vb, bs⟩ := x
      have hr : ∀ j y, [Value.int .i64 kd, .int .i64 n, vb][j]? = some y → wr.cell? ⟨b, off + k * 3 + j, none⟩ = some y := fun j y hy => HD.out.nw.kp.cell (hc j y hy) (by simp)
      have r0 := hr 0 _ rfl
      rw [Nat.add_zero] at r0
      have r1 := hr 1 _ rfl
      have r2 := hr 2 _ rfl
      have HA := hide (do_any w p q v u e kd n vb bs wr HD.out hS hB hb0 hb1)
      clear hcell e2 e3 hc hS hB hr
      go_wp2_with (first
        | (go_at_call 26; refine HA.out.mono ?_; rintro r w3 ⟨rfl, v3, u3, e3, D3⟩; clear HA; have HD3 := hide D3; clear D3))
      go_roundw
      case rel => exact ⟨k + 1, v3, u3, e3, by omega, by omega, by go_num, HD3.out⟩
      case measure => simp [intOf]; omega
    · have hgo' : (¬ (k : Int) < (L : Int)) ∨ ((k : Int) < (L : Int) ∧ ¬ (k : Int) < 60) := by omega
      clear hgo
      rcases hgo' with hgo | ⟨hgo, hgo2⟩
      all_goals
        go_wp2_with fail
        go_ret
        exact ⟨rfl, HD.out.nw.kp⟩
end Go.Proofs.Ythpaablhhfichaa

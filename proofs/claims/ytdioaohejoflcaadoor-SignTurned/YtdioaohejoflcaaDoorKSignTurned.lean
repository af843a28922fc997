/-
  The statement SignTurnedCardSaid: for all numbers, messages and signatures the law function SignTurned returns true and leaves its arguments as they were; the table hash.roundWords starts as the program's text lays it (tied). No other condition.
-/
import Derived.Test.YtdioaohejoflcaaDoorKSTurn
import Derived.Test.YtdioaohejoflcaaDoorTie
import Derived.Test.YtdioaohejoflcaaDoorCards
import Derived.SevenTiedAt
namespace Go.Proofs.YtdioaohejoflcaaDoor.signTurned
open Go.ChangeShapes Go.WideShapes Go.ChangeAt Go.RowKit
open Go.Deep
open Go.Proofs.YtdioaohejoflcaaDoor
set_option linter.unusedVariables false

/-- a signature that is handed in, whatever it is. -/
def RawSig (w : World) (v : Value) (i : Int) (ps qs : List (List Int)) : Prop :=
  ∃ ap np cp aq nq cq lp lq, v = .agg #[.int .i64 i, .slice ap np cp, .slice aq nq cq] ∧ (np ≤ cp ∧ (ap = none → cp = 0)) ∧ (nq ≤ cq ∧ (aq = none → cq = 0)) ∧ (Lists w (.slice ap np cp) lp ∧ lp.map (·.2) = ps) ∧ (Lists w (.slice aq nq cq) lq ∧ lq.map (·.2) = qs) ∧ (-9223372036854775808 ≤ i ∧ i ≤ 9223372036854775807)
section
variable {H : Type} {enc : TypeId × Value → H} {w : World}
set_option maxRecDepth 100000 in
theorem cap_of_trod {v : Value} {fuel : Nat} {x : DataW H × List MemPlace} (h : DataW.trod enc Tryd.prog w 0 (fun _ => true) true fuel 31 [v] = some x) : ∃ ao n c, v = .slice ao n c ∧ n ≤ c ∧ (ao = none → c = 0) := by
  rcases open_slice1 Tryd.underlying31 (by kernel_rfl) h with ⟨hcs, _⟩ | ⟨a, len, cap, m, n, V, D, Pl, hcs, _, hl, hm, hmm, _, hx⟩
  · simp only [List.cons.injEq, and_true] at hcs
    exact ⟨none, 0, 0, hcs, Nat.le_refl _, fun _ => rfl⟩
  · simp only [List.cons.injEq, and_true] at hcs
    exact ⟨some a, len, cap, hcs, hl, fun h => by cases h⟩
set_option maxRecDepth 100000 in
theorem raw_open {base : Nat} {v : Value} {d : DataW H} {p : List MemPlace} (hv : Value.okWide Tryd.prog w .any base 33 v) (h : DataW.Trod enc Tryd.prog w 0 (fun _ => true) true 33 v d p) : ∃ i ps qs, RawSig w v i ps qs := by
  obtain ⟨va, vb, vc, y0, y1, y2, n, rfl, _, _, t0, t1, t2⟩ := Go.Joins.open_agg3 Tryd.underlying33 (by kernel_rfl) (by kernel_rfl) hv h
  obtain ⟨si, e0, _, wsi⟩ := DataW.trod_int Tryd.underlying3 t0
  obtain ⟨ap, np, cp, ep, p1, p2⟩ := cap_of_trod t1
  obtain ⟨aq, nq, cq, eq, q1, q2⟩ := cap_of_trod t2
  obtain ⟨lp, sp⟩ := lists_of_trod t1
  obtain ⟨lq, sq⟩ := lists_of_trod t2
  simp only [List.cons.injEq, and_true] at e0
  subst e0
  subst ep
  subst eq
  exact ⟨si, _, _, ap, np, cp, aq, nq, cq, lp, lq, rfl, ⟨p1, p2⟩, ⟨q1, q2⟩, ⟨sp, rfl⟩, ⟨sq, rfl⟩, bounds_i64 wsi⟩
end
/-- The value is some signature. -/
def AnyS : Tell := fun v w => ∃ i ps qs, SigV w v i ps qs ∧ (-9223372036854775808 ≤ i ∧ i ≤ 9223372036854775807)
theorem stable_any : Tell.stable AnyS := fun _ _ _ k ⟨i, ps, qs, h, hb⟩ => ⟨i, ps, qs, h.kept k, hb⟩
theorem turned_in {vh v : Value} {w : World} {sd : List Int} {i : Nat} {d ax tn : Int} (hh : InT 9 vh w) (hV : SigV w v i (sgnP sd i d) (pthP sd i 4)) (hi : i < 16) (hax : -9223372036854775808 ≤ ax ∧ ax ≤ 9223372036854775807) (htn : 0 ≤ tn ∧ tn ≤ 255) :
    Calls Tryd.prog 18 #[v, vh, .int .i64 ax, .int .u8 tn] w fun e w' => ∃ v', e = .returned v' ∧ ∃ i' ps' qs', SigV w' v' i' ps' qs' ∧ (-9223372036854775808 ≤ i' ∧ i' ≤ 9223372036854775807) ∧ True ∧ Kp [] w w' := by
  obtain ⟨how, rfl, hhow⟩ := hh
  have hr := (rgtP_iff _ _ _).1 (rgtP_sgn sd i hi d)
  refine (turned_any v i _ _ how ax tn w hV (by omega) hr.2.1.1 hr.2.1.2 hr.2.2.1 hr.2.2.2 (by omega) hax htn).mono ?_
  rintro e w' ⟨v', rfl, i', ps', qs', h1, h2, _, h4⟩
  exact ⟨v', rfl, i', ps', qs', h1, h2, trivial, h4⟩
theorem same_any' {vs vp vm : Value} {w : World} {tp ms : List Int} (h : AnyS vs w) (hP : Sl w vp tp) (hPB : Bs tp) (hM : Sl w vm ms) (hMB : Bs ms) (hml : ms.length ≤ 1000) (hG : Gl w) :
    Calls Tryd.prog 17 #[vp, vm, vs] w fun e w' => e = .returned (.bool true) ∧ Kp [] w w' := by
  obtain ⟨i, ps, qs, hV, hb⟩ := h
  exact lsame_any vp tp vm ms vs i ps qs w hP hPB hM hMB hml hV hb hG

/-- what an owner's Public reads. -/
def OwP (w : World) (g : Nat) (r : List Int) : Prop := ∃ gl c b off cl ax nx cx, w.cell? ⟨g, 1, none⟩ = some (.slice (some ⟨gl, 0, none⟩) 5 c) ∧ w.cell? ⟨gl, 4, none⟩ = some (.slice (some ⟨b, off, none⟩) 1 cl) ∧ w.cell? ⟨b, off, none⟩ = some (.slice ax nx cx) ∧ Sl w (.slice ax nx cx) r
theorem OwP.kept {w w' : World} {g : Nat} {r : List Int} (h : OwP w g r) (k : Kp [] w w') : OwP w' g r := by
  obtain ⟨gl, c, b, off, cl, ax, nx, cx, h1, h2, h3, h4⟩ := h
  exact ⟨gl, c, b, off, cl, ax, nx, cx, k.cell h1 (by simp), k.cell h2 (by simp), k.cell h3 (by simp), h4.kept k (by simp)⟩
theorem own_publicP (g : Nat) (r : List Int) (w : World) (hO : OwP w g r) :
    Calls Tryd.prog 12 #[.pointer (some ⟨g, 0, none⟩)] w fun e w' => ∃ ao m c, e = .returned (.slice ao m c) ∧ Sl w (.slice ao m c) r ∧ w' = w := by
  obtain ⟨gl, c, b, off, cl, ax, nx, cx, h1, h2, h3, hS⟩ := hO
  have HS := hide hS
  clear hS
  go_enter Tryd.func12, Tryd.ntmps12
  go_wp2_with fail
  go_ret
  exact ⟨ax, nx, cx, rfl, unhide HS, rfl⟩
theorem sl_not3 {w : World} {g : Nat} {i : Int} {a1 a2 : Option Addr} {n1 n2 c1 c2 : Nat} {t : TypeId} {fr : Nat × Nat} (hg : w.heap[g]? = some (.cells #[.int .i64 i, .slice a1 n1 c1, .slice a2 n2 c2] t fr)) {v : Value} {bs : List Int} (h : Sl w v bs) (hb : bs ≠ []) : ∀ q, v.ownBlock = some q → q ≠ g := by
  obtain ⟨ao, c, rfl, _, _, h3, h4⟩ := h
  intro q hq e
  subst e
  cases ao with
  | none => cases hq
  | some a =>
    have hp : 0 < bs.length := List.length_pos_iff.2 hb
    have hc := h4 a rfl 0 (.int .u8 bs[0]) (by simp [List.getElem?_eq_getElem hp])
    have hblk : (a.add 0).block = q := by rw [add_block]; simpa [Value.ownBlock] using hq
    have hsp := spot_of_cell hc
    obtain ⟨ab, ao', as'⟩ : ∃ x y z, a.add 0 = ⟨x, y, z⟩ := ⟨_, _, _, rfl⟩
    obtain ⟨as'', h5⟩ := as'
    rw [h5] at hc hblk hsp
    simp only at hblk hsp
    subst hblk
    subst hsp
    rw [cell_of_row w ab ao' _ _ _ hg] at hc
    match ao', hc with
    | 0, hc => simp at hc
    | 1, hc => simp at hc
    | 2, hc => simp at hc
    | k + 3, hc => simp at hc
theorem lists_not3 {w : World} {g : Nat} {i : Int} {y z : Value} {t : TypeId} {fr : Nat × Nat} (hg : w.heap[g]? = some (.cells #[.int .i64 i, y, z] t fr)) {v : Value} {l : List (Value × List Int)} (h : Lists w v l) (hl : 3 ≤ l.length) : ∀ q, v.ownBlock = some q → q ≠ g := by
  obtain ⟨ao, c, rfl, _, h2⟩ := h
  intro q hq e
  subst e
  obtain ⟨b, off, e0, k0, s0, _⟩ := h2 0 (by omega)
  obtain ⟨b', off', e1, k2, _, _⟩ := h2 2 (by omega)
  subst e0
  injection e1 with e1
  injection e1 with e2 e3
  subst e2
  subst e3
  have hb : b = q := by simpa [Value.ownBlock] using hq
  subst hb
  rw [cell_of_row w b _ _ _ _ hg] at k0 k2
  match off, k0, k2 with
  | 0, k0, _ =>
    obtain ⟨_, _, e4, _⟩ := s0
    rw [e4] at k0
    simp at k0
  | k + 1, _, k2 => simp at k2
theorem _root_.Go.Proofs.YtdioaohejoflcaaDoor.Sl.apart13 {w6 w8 : World} {g : Nat} {i : Int} {a1 a2 : Option Addr} {n1 n2 c1 c2 : Nat} {t : TypeId} {fr : Nat × Nat} {v : Value} {bs : List Int} (h : Sl w6 v bs) (k : Kp [g] w6 w8) (hg : w6.heap[g]? = some (.cells #[.int .i64 i, .slice a1 n1 c1, .slice a2 n2 c2] t fr)) : Sl w8 v bs := by
  by_cases hb : bs = []
  · exact h.apart k (fun _ _ _ => hb)
  · exact h.kept k (fun q hq => by simpa using sl_not3 hg h hb q hq)
theorem _root_.Go.Proofs.YtdioaohejoflcaaDoor.SigV.apart13 {w5 w6 w8 : World} {g : Nat} {i : Int} {a1 a2 : Option Addr} {n1 n2 c1 c2 : Nat} {t : TypeId} {fr : Nat × Nat} {v : Value} {sd : List Int} {j : Nat} {d : Int} (h : SigV w5 v j (sgnP sd j d) (pthP sd j 4)) (hj : j < 16) (k0 : Kp [] w5 w6) (k : Kp [g] w6 w8) (hg : w6.heap[g]? = some (.cells #[.int .i64 i, .slice a1 n1 c1, .slice a2 n2 c2] t fr)) : SigV w8 v j (sgnP sd j d) (pthP sd j 4) := by
  have hr := (rgtP_iff _ _ _).1 (rgtP_sgn sd j hj d)
  obtain ⟨vp, vq, lp, lq, e, h1, h2, h3, h4⟩ := h.kept k0
  have n1 : lp.length = 64 := by rw [← List.length_map (f := (·.2)), h2]; exact hr.2.1.1
  have n2 : lq.length = 4 := by rw [← List.length_map (f := (·.2)), h4]; exact hr.2.2.1
  have el : ∀ (l : List (Value × List Int)) (vv : Value), Lists w6 vv l → (∀ x ∈ l.map (·.2), x.length = 32) → ∀ y ∈ l, ∀ q, y.1.ownBlock = some q → q ∉ [g] := fun l vv hl hx y hy q hq => by
    obtain ⟨ix, hix, rfl⟩ := List.getElem_of_mem hy
    obtain ⟨_, _, _, _, hL⟩ := hl
    obtain ⟨_, _, _, _, hS, _⟩ := hL ix hix
    have := sl_not3 hg hS (fun e => by have := hx l[ix].2 (List.mem_map.2 ⟨_, hy, rfl⟩); rw [e] at this; cases this) q hq
    simpa using this
  exact ⟨vp, vq, lp, lq, e, h1.off k (fun q hq => by simpa using lists_not3 hg h1 (by omega) q hq) (el lp vp h1 (by rw [h2]; exact hr.2.1.2)), h2, h3.off k (fun q hq => by simpa using lists_not3 hg h3 (by omega) q hq) (el lq vq h3 (by rw [h4]; exact hr.2.2.2)), h4⟩
theorem pub13 {w6 w8 : World} {base g g13 : Nat} {sd : List Int} {i : Int} {ra sa : Option Addr} {rn rc sn sc : Nat} {lp lq : List (Value × List Int)} (hO : Ow w6 base g sd 5) (hg : w6.heap[g13]? = some (.cells #[.int .i64 i, .slice ra rn rc, .slice sa sn sc] 33 (0, 0))) (hP : Lists w6 (.slice ra rn rc) lp) (hQ : Lists w6 (.slice sa sn sc) lq) (k : Kp [g13] w6 w8) : OwP w8 g (topP sd) := by
  obtain ⟨sa', sn', sc', lv, xs, h1, _, h3, _, h5, h6⟩ := hO
  have hgg : g ≠ g13 := fun e => by
    rw [e, hg] at h1
    injection h1 with h1
    injection h1 with h1
    simp at h1
  obtain ⟨gl, c, e, hc⟩ := h3.at (by omega)
  have hgl : gl ≠ g13 := fun e' => by
    rcases h3.2 with ⟨h', _⟩ | ⟨g', cap, cur, h', _, hg', _⟩
    · rw [e] at h'; cases h'
    · rw [e] at h'
      injection h' with h'
      injection h' with h'
      injection h' with h'
      rw [← h', e', hg] at hg'
      injection hg' with hg'
      injection hg' with _ ht
      exact absurd ht (by decide)
  rw [h5] at e
  subst e
  have hx := hc 4 (by omega)
  obtain ⟨ao, n, c', l, e4, k1, k2, _⟩ := h6 4 (by omega)
  rw [e4] at hx k1
  obtain ⟨b, off, ay, ny, cy, rfl, hcell, hS, _⟩ := lists_at k1 k2 0 (by rw [lvP_len]; decide)
  rw [Nat.add_zero] at hcell
  have hn : n = 1 := by
    obtain ⟨ao', c'', e5, _⟩ := k1
    injection e5 with _ e6
    rw [e6, ← List.length_map (f := (·.2)), k2, lvP_len]
  subst hn
  have hlen : ((lvP sd 4).getD 0 []).length = 32 := (topP_ok sd).1
  have hne : (lvP sd 4).getD 0 [] ≠ [] := fun e => by rw [e] at hlen; cases hlen
  have hbb : b ≠ g13 := fun e' => by
    subst e'
    rw [cell_of_row w6 b _ _ _ _ hg] at hcell
    have key : ∀ (a : Option Addr) (m cc : Nat) (ll : List (Value × List Int)), Lists w6 (.slice a m cc) ll → (.slice a m cc : Value) = .slice ay ny cy → False := fun a m cc ll hll he => by
      rw [he] at hll
      obtain ⟨ao1, c1, e7, _, h8⟩ := hll
      obtain ⟨ao2, c2, e9, _, _, _, h10⟩ := hS
      have hm : ll.length = 32 := by injection e7 with _ e7 _; injection e9 with _ e9 _; rw [← e7, e9, hlen]
      obtain ⟨b1, o1, e11, h12, h13, _⟩ := h8 0 (by omega)
      have hao : ao2 = some ⟨b1, o1, none⟩ := by injection e7 with e7 _ _; injection e9 with e9 _ _; rw [← e9, e7, e11]
      have h14 := h10 ⟨b1, o1, none⟩ hao 0 (.int .u8 (((lvP sd 4).getD 0 [])[0]'(by omega))) (by simp)
      rw [Addr.add_lit, h12] at h14
      obtain ⟨_, _, e15, _⟩ := h13
      rw [e15] at h14
      injection h14 with h14
      cases h14
    match off, hcell with
    | 0, hcell => simp at hcell
    | 1, hcell => exact key ra rn rc lp hP (by simpa using hcell)
    | 2, hcell => exact key sa sn sc lq hQ (by simpa using hcell)
    | j + 3, hcell => simp at hcell
  exact ⟨gl, c, b, off, c', ay, ny, cy, k.cell (by rw [cell_of_row w6 g 1 _ _ _ h1]; rfl) (by simpa using hgg), k.cell hx (by simpa using hgl), k.cell hcell (by simpa using hbb), hS.kept k (fun q hq => by simpa using sl_not3 hg hS hne q hq)⟩

set_option maxRecDepth 100000 in
set_option maxHeartbeats 8000000 in
theorem walk (n ix : Int) (v2 : Value) (ms0 : List Int) (how ax tn : Int) (vr : Value) (ri : Int) (rp0 rq0 : List (List Int)) (w : World) (hG : Gl w) (hn : -9223372036854775808 ≤ n ∧ n ≤ 9223372036854775807) (hix : -9223372036854775808 ≤ ix ∧ ix ≤ 9223372036854775807) (hm0 : Sl w v2 ms0) (hM0 : Bs ms0) (hhow : -9223372036854775808 ≤ how ∧ how ≤ 9223372036854775807) (hax : -9223372036854775808 ≤ ax ∧ ax ≤ 9223372036854775807) (htn : 0 ≤ tn ∧ tn ≤ 255) (hr : RawSig w vr ri rp0 rq0) :
    Calls Tryd.prog 5 #[.int .i64 n, .int .i64 ix, v2, .int .i64 how, .int .i64 ax, .int .u8 tn, vr] w fun e w' => e = .returned (.bool true) ∧ Below w.heap.size w w' := by
  obtain ⟨ra, rn, rc, sa, sn, sc, lp0, lq0, rfl, ⟨hrc, hra⟩, ⟨hsc, hsa⟩, ⟨hLP, hep⟩, ⟨hLQ, heq⟩, hri⟩ := hr
  have hrn : lp0.length = rn := by obtain ⟨_, _, e, _⟩ := hLP; injection e with _ e; exact e.symm
  have hsn : lq0.length = sn := by obtain ⟨_, _, e, _⟩ := hLQ; injection e with _ e; exact e.symm
  have hrcm : rn ≤ 9223372036854775807 := by obtain ⟨_, _, _, h, _⟩ := hLP; omega
  have hscm : sn ≤ 9223372036854775807 := by obtain ⟨_, _, _, h, _⟩ := hLQ; omega
  have HG := hide hG
  obtain ⟨ms, hms⟩ : ∃ ms, ms = ms0.take 100 := ⟨_, rfl⟩
  have hml : ms.length ≤ 100 := by rw [hms]; simp; omega
  have HBm : Hid (Bs ms) := by rw [hms]; exact hM0.take _
  obtain ⟨ob, hob⟩ : ∃ o : Obj, o = (.cells #[.int .i64 ri, .slice ra rn rc, .slice sa sn sc] 33) := ⟨_, rfl⟩
  have K0 : Kp [] w (w.alloc ob) := (Kp.refl [] w).alloc ob
  have G0 : Hid ((w.alloc ob).heap[w.heap.size]? = some ob) := heap_alloc_new w ob
  have HKC := hide (by have := cut_any v2 ms0 100 (w.alloc ob) (hm0.kept K0 (by simp)); rw [← hms] at this; exact this)
  have HM0 := hide (hm0.kept K0 (by simp))
  have HC1 := hide (seed_any n (w.alloc ob) hn)
  have HCW := hide (fun w => within_any ix 0 15 w (by omega) (by omega) (by omega) hix)
  rw [hob] at K0 G0 HKC HM0 HC1
  have HK0 := hide K0
  have HHOW := hide hhow
  have HAX := hide hax
  have HTN := hide htn
  have HRB := hide hri
  have HLP0 := hide hLP
  have HLQ0 := hide hLQ
  have HRN := hide hrn
  have HSN := hide hsn
  have HRC := hide hrc
  have HRA := hide hra
  have HSC := hide hsc
  have HSA := hide hsa
  clear hG hm0 hM0 hms hn hix hhow hax htn hri hLP hLQ hob K0 hrn hsn hrc hra hsc hsa hep heq
  go_enter Tryd.func5, Tryd.ntmps5
  go_wp2_with fail
  refine (unhide HKC).mono ?_
  rintro ee w1 ⟨am, cm, rfl, hT, hw⟩
  subst w1
  obtain ⟨w1, hw1⟩ : ∃ w1, w1 = w.alloc (.cells #[.int .i64 ri, .slice ra rn rc, .slice sa sn sc] 33) := ⟨_, rfl⟩
  rw [← hw1] at HM0 HC1 HK0 G0 ⊢
  have HM1 : Hid (Sl w1 (.slice am ms.length cm) ms) := hT _ (unhide HM0)
  obtain ⟨mm, hmm⟩ : ∃ m, m = ms.length := ⟨_, rfl⟩
  rw [← hmm] at HM1 ⊢
  obtain ⟨g13, hg13⟩ : ∃ g, g = w.heap.size := ⟨_, rfl⟩
  rw [← hg13] at G0 ⊢
  have H13 := hide hg13
  clear hT HKC HM0 hmm hw1 hg13
  go_wp2_with fail
  refine (unhide HC1).mono ?_
  rintro ee w2 ⟨a1, m1, c1, sd, rfl, R1, hsl, hsb, K1⟩
  have HC := hide (new_own (.slice a1 m1 c1) sd w2 R1.sl hsb hsl)
  have HK2 := hide K1
  have HSB := hide hsb
  have HSL := hide hsl
  clear R1 K1 hsb hsl HC1
  go_wp2_with fail
  refine (unhide HC).mono ?_
  rintro ee w3 ⟨g1, bs1, rfl, O3, K3⟩
  have HO3 := hide O3
  have HK3 := hide ((unhide HK2).trans K3)
  clear O3 K3 HC HK2
  go_wp2_with fail
  refine (unhide HCW w3).mono ?_
  rintro ee w4 ⟨xi, rfl, hx0, hx1, hw⟩
  subst w4
  obtain ⟨i, rfl⟩ := Int.eq_ofNat_of_zero_le hx0
  have hi16 : i < 16 := by omega
  obtain ⟨d, hd⟩ : ∃ d, d = digP ms := ⟨_, rfl⟩
  have HC := hide (own_sign g1 bs1 sd i (.slice am mm cm) ms d hd w3 (unhide HO3) (unhide HSB) (unhide HSL) hi16 ((unhide HM1).kept (unhide HK3) (by simp)) (unhide HBm) (by omega))
  clear hd HCW
  go_wp2_with fail
  refine (unhide HC).mono ?_
  rintro ee w5 ⟨v5, rfl, V5, K5⟩
  obtain ⟨ap, np, cp, aq, nq, cq, lp, lq, hv5, hLP, hp, hLQ, hq, hnp, hnq⟩ := V5.shape
  subst hv5
  have HV5 := hide V5
  have HK35 := hide K5
  have HK5 := hide ((unhide HK3).trans K5)
  have Ga := heap_alloc_new w5 (.cells #[.int .i64 0, .slice none 0 0, .slice none 0 0] 33)
  clear hLP hp hLQ hq hnp hnq V5 K5 HC
  go_wp2_with (refine wpList_store_sig rfl (.tmp 16) (.tmp 26) rfl w5.heap.size rfl _ _ _ _ _ _ Ga rfl ⟨rfl, rfl, rfl⟩ ?_; intro w6 G6 K6; refine Hid.out ?_)
  have Kb : Kp [] w5 w6 := ((Kp.refl [] w5).alloc (.cells #[.int .i64 0, .slice none 0 0, .slice none 0 0] 33)).then K6 (by simp)
  have HK16 := hide ((unhide HK5).trans Kb)
  have GR := (unhide HK16).heap (unhide G0) (by simp)
  have e1 : w6.cell? ⟨g13, 1, none⟩ = some (.slice ra rn rc) := by rw [cell_of_row w6 g13 1 _ _ _ GR]; rfl
  have f1 : w6.frozen? ⟨g13, 1, none⟩ = false := frozen_of_row w6 g13 1 _ _ GR
  have e2 : w6.cell? ⟨g13, 2, none⟩ = some (.slice sa sn sc) := by rw [cell_of_row w6 g13 2 _ _ _ GR]; rfl
  have f2 : w6.frozen? ⟨g13, 2, none⟩ = false := frozen_of_row w6 g13 2 _ _ GR
  have HGR6 := hide GR
  obtain ⟨gs, hgs⟩ : ∃ g, g = w5.heap.size := ⟨_, rfl⟩
  rw [← hgs] at G6 ⊢
  have HG6 := hide G6
  have HK56 := hide Kb
  have HGSN : Hid (gs ≠ g13) := hide (by have h1 := unhide H13; have h2 := ((unhide HK0).trans (unhide HK5)).size; have h3 : g13 < w1.heap.size := (Array.getElem?_eq_some_iff.1 (unhide G0)).1; have h4 := (unhide HK5).size; omega)
  have HLP6 := hide ((unhide HLP0).kept ((unhide HK0).trans (unhide HK16)))
  have HLQ6 := hide ((unhide HLQ0).kept ((unhide HK0).trans (unhide HK16)))
  obtain ⟨tp, htp⟩ : ∃ t, t = topP sd := ⟨_, rfl⟩
  have HTP := hide htp
  have HTB : Hid (Bs tp) := by rw [htp]; exact (topP_ok sd).2
  have hrcm' : (rn : Int) ≤ 9223372036854775807 := by omega
  have hscm' : (sn : Int) ≤ 9223372036854775807 := by omega
  clear Ga K6 G6 Kb hgs GR htp
  refine hide ?_
  have HK06 := hide ((unhide HK0).trans (unhide HK16))
  by_cases cP : 70 < rn
  · by_cases cQ : 10 < sn
    · skip
      have hP70 : (70 : Int) < (rn : Int) := by omega
      have hrs := run_cut ra rn rc 70 w6 (by omega) (unhide HRC) (unhide HRA)
      have hrs1 : (Instr.sliceAt 31 (.slice ra rn rc) none (some (.int .i64 70)) none).run Tryd.prog w6 = .ok (.slice ra 70 rc) w6 := hrs
      clear hrs
      have kP := setCell_kp w6 g13 1 (.slice ra 70 rc)
      have gP := heap_setCell_same w6 g13 1 _ _ (.slice ra 70 rc) (unhide HGR6)
      have hQ10 : (10 : Int) < (sn : Int) := by omega
      have e2' : (w6.setCell ⟨g13, 1, none⟩ (.slice ra 70 rc)).cell? ⟨g13, 2, none⟩ = some (.slice sa sn sc) := by rw [cell_of_row _ g13 2 _ _ _ gP]; rfl
      have f2' : (w6.setCell ⟨g13, 1, none⟩ (.slice ra 70 rc)).frozen? ⟨g13, 2, none⟩ = false := frozen_of_row _ g13 2 _ _ gP
      have hrq := run_cut sa sn sc 10 (w6.setCell ⟨g13, 1, none⟩ (.slice ra 70 rc)) (by omega) (unhide HSC) (unhide HSA)
      have hrq1 : (Instr.sliceAt 31 (.slice sa sn sc) none (some (.int .i64 10)) none).run Tryd.prog (w6.setCell ⟨g13, 1, none⟩ (.slice ra 70 rc)) = .ok (.slice sa 10 sc) (w6.setCell ⟨g13, 1, none⟩ (.slice ra 70 rc)) := hrq
      clear hrq
      have kQ := setCell_kp (w6.setCell ⟨g13, 1, none⟩ (.slice ra 70 rc)) g13 2 (.slice sa 10 sc)
      have gQ := heap_setCell_same (w6.setCell ⟨g13, 1, none⟩ (.slice ra 70 rc)) g13 2 _ _ (.slice sa 10 sc) gP
      have K68 := kP.trans kQ
      have hne := unhide HGSN
      have HG8 := hide (K68.heap (unhide HG6) (by simpa using hne))
      have HK08 : Hid (Kp [] w ((w6.setCell ⟨g13, 1, none⟩ (.slice ra 70 rc)).setCell ⟨g13, 2, none⟩ (.slice sa 10 sc))) := (unhide HK06).then K68 (fun j hj => .inr (by have := unhide H13; simp at hj; omega))
      have hlt13 : ∀ q, q < w.heap.size → q ∉ [g13] := fun q hq => by have := unhide H13; simp; omega
      have HV8 : Hid (SigV ((w6.setCell ⟨g13, 1, none⟩ (.slice ra 70 rc)).setCell ⟨g13, 2, none⟩ (.slice sa 10 sc)) (.agg #[.int .i64 i, .slice ap np cp, .slice aq nq cq]) i (sgnP sd i d) (pthP sd i 4)) := (unhide HV5).apart13 hi16 (unhide HK56) K68 (unhide HGR6)
      have HM8 : Hid (Sl ((w6.setCell ⟨g13, 1, none⟩ (.slice ra 70 rc)).setCell ⟨g13, 2, none⟩ (.slice sa 10 sc)) (.slice am mm cm) ms) := ((unhide HM1).kept (unhide HK16) (by simp)).apart13 K68 (unhide HGR6)
      have HO8 : Hid (OwP ((w6.setCell ⟨g13, 1, none⟩ (.slice ra 70 rc)).setCell ⟨g13, 2, none⟩ (.slice sa 10 sc)) g1 tp) := by rw [unhide HTP]; exact pub13 ((unhide HO3).kept ((unhide HK35).trans (unhide HK56))) (unhide HGR6) (unhide HLP6) (unhide HLQ6) K68
      have HR8 : Hid (∃ ps qs, SigV ((w6.setCell ⟨g13, 1, none⟩ (.slice ra 70 rc)).setCell ⟨g13, 2, none⟩ (.slice sa 10 sc)) (.agg #[.int .i64 ri, .slice ra 70 rc, .slice sa 10 sc]) ri ps qs) := by
        have p0 := (unhide HLP0).kept (unhide HK08)
        have q0 := (unhide HLQ0).kept (unhide HK08)
        exact ⟨_, _, _, _, _, _, rfl, p0.take (n := 70) (by have := unhide HRN; omega), rfl, q0.take (n := 10) (by have := unhide HSN; omega), rfl⟩
      have HGQ := hide gQ
      clear kP gP kQ gQ K68 hne hlt13
      go_wp2_with fail
      obtain ⟨w8, hw8⟩ : ∃ w8, w8 = ((w6.setCell ⟨g13, 1, none⟩ (.slice ra 70 rc)).setCell ⟨g13, 2, none⟩ (.slice sa 10 sc)) := ⟨_, rfl⟩
      rw [← hw8] at HG8 HK08 HV8 HM8 HO8 HR8 HGQ ⊢
      clear hw8 e1 f1 e2 f2
      obtain ⟨rp, rq, hRV⟩ := unhide HR8
      obtain ⟨rpa, rpn, rpc, rqa, rqn, rqc, eraw⟩ : ∃ a b c a' b' c', (.agg #[.int .i64 ri, .slice a b c, .slice a' b' c'] : Value) = .agg #[.int .i64 ri, .slice ra 70 rc, .slice sa 10 sc] := ⟨_, _, _, _, _, _, rfl⟩
      have HGR : Hid (∀ w', Kp [] w8.drew w' → w'.heap[g13]? = some (.cells #[.int .i64 ri, .slice rpa rpn rpc, .slice rqa rqn rqc] 33 (0, 0))) := fun w' k' => by
        have h1 := ((kp_drew w8).trans k').heap (unhide HGQ) (by simp)
        injection eraw with e
        rw [e]
        simpa using h1
      have HRV : Hid (∀ w', Kp [] w8.drew w' → SigV w' (.agg #[.int .i64 ri, .slice rpa rpn rpc, .slice rqa rqn rqc]) ri rp rq) := fun w' k' => by rw [eraw]; exact hRV.kept ((kp_drew w8).trans k')
      have HGS : Hid (∀ w', Kp [] w8.drew w' → w'.heap[gs]? = some (.cells #[.int .i64 i, .slice ap np cp, .slice aq nq cq] 33 (0, 0))) := fun w' k' => ((kp_drew w8).trans k').heap (unhide HG8) (by simp)
      have HVV : Hid (∀ w', Kp [] w8.drew w' → SigV w' (.agg #[.int .i64 i, .slice ap np cp, .slice aq nq cq]) i (sgnP sd i d) (pthP sd i 4)) := fun w' k' => (unhide HV8).kept ((kp_drew w8).trans k')
      have HMM : Hid (∀ w', Kp [] w8.drew w' → Sl w' (.slice am mm cm) ms) := fun w' k' => (unhide HM8).kept ((kp_drew w8).trans k') (by simp)
      have HOW : Hid (∀ w', Kp [] w8.drew w' → OwP w' g1 tp) := fun w' k' => (unhide HO8).kept ((kp_drew w8).trans k')
      have HGL : Hid (∀ w', Kp [] w8.drew w' → Gl w') := fun w' k' => (unhide HG).kept ((unhide HK08).trans ((kp_drew w8).trans k')) (by simp)
      clear hRV eraw HR8 HGQ HG8 HV8 HM8 HO8
      refine region_grow Tryd.mixed [Is (.pointer (some ⟨g1, 0, none⟩)), SlT (tp), Is (.slice am mm cm), Is (.agg #[.int .i64 i, .slice ap np cp, .slice aq nq cq]), Is (.int .i64 how), InT 9, Is (.int .i64 ax), Is (.int .u8 tn), AnyS, Is (.bool true), Is (.bool true), Is (.pointer (some ⟨g1, 0, none⟩)), SlT (tp), Is (.slice am mm cm), Is (.agg #[.int .i64 ri, .slice rpa rpn rpc, .slice rqa rqn rqc]), Is (.bool true), Is (.bool true), Is (.bool true), Is (.bool true), Is (.bool true), Is (.bool true)] [[(15, none)], [(43, some 0)], [(2, none)], [(16, none)], [(3, none)], [(47, some 4)], [(4, none)], [(5, none)], [(46, some 3), (48, some 5), (49, some 6), (50, some 7)], [(44, some 1), (45, some 2), (51, some 8)], [(52, some 9)], [(15, none), (53, some 10)], [(54, some 11), (53, some 10)], [(2, none), (53, some 10)], [(13, none), (53, some 10)], [(55, some 12), (56, some 13), (57, some 14), (53, some 10)], [(53, some 10), (58, some 15)], [(59, some 16)], [(60, some 17)], [(60, some 17), (61, some 18)], [(62, some 19)]] (by kernel_rfl) ?_ ?_ ?_
      · simp only [List.mem_cons, List.not_mem_nil, or_false]
        intro R hR
        rcases hR with rfl | rfl | rfl | rfl | rfl | rfl | rfl | rfl | rfl | rfl | rfl | rfl | rfl | rfl | rfl | rfl | rfl | rfl | rfl | rfl | rfl <;> first | exact stable_is _ | exact stable_sl _ | exact stable_in _ | exact stable_any
      · refine steps_cons (fun a w hk hn => ?_) ?_
        · have h15 : a.eval (.tmp 15) = .pointer (some ⟨g1, 0, none⟩) := hn.1
          clear hn
          refine wants_plain rfl ?_
          exact grown_move (.tmp 15) rfl h15
        refine steps_cons (fun a w hk hn => ?_) ?_
        · have h43 : a.eval (.tmp 43) = .pointer (some ⟨g1, 0, none⟩) := hn.1
          clear hn
          refine wants_plain rfl ?_
          refine grown_call (f := 12) rfl Tryd.func12 (by kernel_rfl) (by kernel_rfl) ?_
          simp only [List.map_toArray, List.map_cons, List.map_nil, h43]
          refine (own_publicP _ tp w (unhide HOW w hk)).mono ?_
          rintro e w' ⟨ao, m, c, rfl, R, hw⟩
          subst w'
          exact ⟨_, rfl, Kp.refl _ _, R⟩
        refine steps_cons (fun a w hk hn => ?_) ?_
        · have h2 : a.eval (.tmp 2) = .slice am mm cm := hn.1
          clear hn
          refine wants_plain rfl ?_
          exact grown_move (.tmp 2) rfl h2
        refine steps_cons (fun a w hk hn => ?_) ?_
        · have h16 : a.eval (.tmp 16) = .pointer (some ⟨gs, 0, none⟩) := hn.1
          clear hn
          refine wants_plain rfl ?_
          exact grown_loadsig (.tmp 16) rfl gs _ _ _ _ h16 (unhide HGS w hk) rfl
        refine steps_cons (fun a w hk hn => ?_) ?_
        · have h3 : a.eval (.tmp 3) = .int .i64 how := hn.1
          clear hn
          refine wants_plain rfl ?_
          exact grown_move (.tmp 3) rfl h3
        refine steps_cons (fun a w hk hn => ?_) ?_
        · have h47 : a.eval (.tmp 47) = .int .i64 how := hn.1
          clear hn
          refine wants_plain rfl ?_
          refine grown_call (f := 23) rfl Tryd.func23 (by kernel_rfl) (by kernel_rfl) ?_
          simp only [List.map_toArray, List.map_cons, List.map_nil, h47]
          refine (within_any how 0 8 w (by omega) (by omega) (by omega) (unhide HHOW)).mono ?_
          rintro e w' ⟨x, rfl, h0, h1, hw⟩
          subst w'
          obtain ⟨y, rfl⟩ := Int.eq_ofNat_of_zero_le h0
          exact ⟨_, rfl, Kp.refl _ _, y, rfl, by omega⟩
        refine steps_cons (fun a w hk hn => ?_) ?_
        · have h4 : a.eval (.tmp 4) = .int .i64 ax := hn.1
          clear hn
          refine wants_plain rfl ?_
          exact grown_move (.tmp 4) rfl h4
        refine steps_cons (fun a w hk hn => ?_) ?_
        · have h5 : a.eval (.tmp 5) = .int .u8 tn := hn.1
          clear hn
          refine wants_plain rfl ?_
          exact grown_move (.tmp 5) rfl h5
        refine steps_cons (fun a w hk hn => ?_) ?_
        · have h46 : a.eval (.tmp 46) = .agg #[.int .i64 i, .slice ap np cp, .slice aq nq cq] := hn.1
          have h48 : (InT 9) (a.eval (.tmp 48)) w := hn.2.1
          have h49 : a.eval (.tmp 49) = .int .i64 ax := hn.2.2.1
          have h50 : a.eval (.tmp 50) = .int .u8 tn := hn.2.2.2.1
          clear hn
          refine wants_plain rfl ?_
          refine grown_call (f := 18) rfl Tryd.func18 (by kernel_rfl) (by kernel_rfl) ?_
          simp only [List.map_toArray, List.map_cons, List.map_nil, h46, h49, h50]
          refine (turned_in h48 (unhide HVV w hk) hi16 (unhide HAX) (unhide HTN)).mono ?_
          rintro e w' ⟨v', rfl, i', ps', qs', V, hb, _, K⟩
          exact ⟨_, rfl, K, i', ps', qs', V, hb⟩
        refine steps_cons (fun a w hk hn => ?_) ?_
        · have h44 : Sl w (a.eval (.tmp 44)) (tp) := hn.1
          have h45 : a.eval (.tmp 45) = .slice am mm cm := hn.2.1
          have h51 : (AnyS) (a.eval (.tmp 51)) w := hn.2.2.1
          clear hn
          refine wants_plain rfl ?_
          refine grown_call (f := 17) rfl Tryd.func17 (by kernel_rfl) (by kernel_rfl) ?_
          simp only [List.map_toArray, List.map_cons, List.map_nil, h45]
          refine (same_any' h51 h44 (unhide HTB) (unhide HMM w hk) (unhide HBm) (by omega) (unhide HGL w hk)).mono ?_
          rintro e w' ⟨rfl, K⟩
          exact ⟨_, rfl, K, rfl⟩
        refine steps_cons (fun a w hk hn => ?_) ?_
        · have h52 : a.eval (.tmp 52) = .bool true := hn.1
          clear hn
          refine wants_plain rfl ?_
          exact grown_move (.tmp 52) rfl h52
        refine steps_cons (fun a w hk hn => ?_) ?_
        · have h15 : a.eval (.tmp 15) = .pointer (some ⟨g1, 0, none⟩) := hn.1
          have h53 : a.eval (.tmp 53) = .bool true := hn.2.1
          clear hn
          refine wants_guard (d := 53) rfl rfl h53 ?_
          exact grown_move (.tmp 15) rfl h15
        refine steps_cons (fun a w hk hn => ?_) ?_
        · have h54 : a.eval (.tmp 54) = .pointer (some ⟨g1, 0, none⟩) := hn.1
          have h53 : a.eval (.tmp 53) = .bool true := hn.2.1
          clear hn
          refine wants_guard (d := 53) rfl rfl h53 ?_
          refine grown_call (f := 12) rfl Tryd.func12 (by kernel_rfl) (by kernel_rfl) ?_
          simp only [List.map_toArray, List.map_cons, List.map_nil, h54]
          refine (own_publicP _ tp w (unhide HOW w hk)).mono ?_
          rintro e w' ⟨ao, m, c, rfl, R, hw⟩
          subst w'
          exact ⟨_, rfl, Kp.refl _ _, R⟩
        refine steps_cons (fun a w hk hn => ?_) ?_
        · have h2 : a.eval (.tmp 2) = .slice am mm cm := hn.1
          have h53 : a.eval (.tmp 53) = .bool true := hn.2.1
          clear hn
          refine wants_guard (d := 53) rfl rfl h53 ?_
          exact grown_move (.tmp 2) rfl h2
        refine steps_cons (fun a w hk hn => ?_) ?_
        · have h13 : a.eval (.tmp 13) = .pointer (some ⟨g13, 0, none⟩) := hn.1
          have h53 : a.eval (.tmp 53) = .bool true := hn.2.1
          clear hn
          refine wants_guard (d := 53) rfl rfl h53 ?_
          exact grown_loadsig (.tmp 13) rfl g13 _ _ _ _ h13 (unhide HGR w hk) rfl
        refine steps_cons (fun a w hk hn => ?_) ?_
        · have h55 : Sl w (a.eval (.tmp 55)) (tp) := hn.1
          have h56 : a.eval (.tmp 56) = .slice am mm cm := hn.2.1
          have h57 : a.eval (.tmp 57) = .agg #[.int .i64 ri, .slice rpa rpn rpc, .slice rqa rqn rqc] := hn.2.2.1
          have h53 : a.eval (.tmp 53) = .bool true := hn.2.2.2.1
          clear hn
          refine wants_guard (d := 53) rfl rfl h53 ?_
          refine grown_call (f := 17) rfl Tryd.func17 (by kernel_rfl) (by kernel_rfl) ?_
          simp only [List.map_toArray, List.map_cons, List.map_nil, h56, h57]
          refine (lsame_any _ tp _ ms _ ri _ _ w h55 (unhide HTB) (unhide HMM w hk) (unhide HBm) (by omega) (unhide HRV w hk) (unhide HRB) (unhide HGL w hk)).mono ?_
          rintro e w' ⟨rfl, K⟩
          exact ⟨_, rfl, K, rfl⟩
        refine steps_cons (fun a w hk hn => ?_) ?_
        · have h53 : a.eval (.tmp 53) = .bool true := hn.1
          have h58 : a.eval (.tmp 58) = .bool true := hn.2.1
          clear hn
          refine wants_plain rfl ?_
          exact grown_pick _ _ _ true rfl h53 h58
        refine steps_cons (fun a w hk hn => ?_) ?_
        · have h59 : a.eval (.tmp 59) = .bool true := hn.1
          clear hn
          refine wants_plain rfl ?_
          exact grown_move (.tmp 59) rfl h59
        refine steps_cons (fun a w hk hn => ?_) ?_
        · have h60 : a.eval (.tmp 60) = .bool true := hn.1
          clear hn
          refine wants_guard (d := 60) rfl rfl h60 ?_
          refine grown_call (f := 20) rfl Tryd.func20 (by kernel_rfl) (by kernel_rfl) ?_
          simp only [List.map_toArray, List.map_nil]
          refine (sknown_any w (unhide HGL w hk)).mono ?_
          rintro e w' ⟨rfl, K⟩
          exact ⟨_, rfl, K, rfl⟩
        refine steps_cons (fun a w hk hn => ?_) ?_
        · have h60 : a.eval (.tmp 60) = .bool true := hn.1
          have h61 : a.eval (.tmp 61) = .bool true := hn.2.1
          clear hn
          refine wants_plain rfl ?_
          exact grown_pick _ _ _ true rfl h60 h61
        refine steps_cons (fun a w hk hn => ?_) ?_
        · have h62 : a.eval (.tmp 62) = .bool true := hn.1
          clear hn
          refine wants_plain rfl ?_
          exact grown_assign (.tmp 62) rfl h62
        exact trivial
      intro W1 hkW1
      rintro _ rfl
      intro v44 h44
      rintro _ rfl
      rintro _ rfl
      rintro _ rfl
      intro v48 h48
      rintro _ rfl
      rintro _ rfl
      intro v51 h51
      rintro _ rfl
      rintro _ rfl
      rintro _ rfl
      intro v55 h55
      rintro _ rfl
      rintro _ rfl
      rintro _ rfl
      rintro _ rfl
      rintro _ rfl
      rintro _ rfl
      rintro _ rfl
      rintro _ rfl
      refine fin_nil ?_
      simp only [Act.put, List.set_cons_zero, List.set_cons_succ, List.setIfInBounds_toArray]
      go_wp2_with fail
      go_ret
      exact ⟨rfl, ((unhide HK08).trans ((kp_drew w8).trans hkW1)).below (Nat.le_refl _) (by simp)⟩
    · skip
      have hP70 : (70 : Int) < (rn : Int) := by omega
      have hrs := run_cut ra rn rc 70 w6 (by omega) (unhide HRC) (unhide HRA)
      have hrs1 : (Instr.sliceAt 31 (.slice ra rn rc) none (some (.int .i64 70)) none).run Tryd.prog w6 = .ok (.slice ra 70 rc) w6 := hrs
      clear hrs
      have kP := setCell_kp w6 g13 1 (.slice ra 70 rc)
      have gP := heap_setCell_same w6 g13 1 _ _ (.slice ra 70 rc) (unhide HGR6)
      have hQ10 : ¬ (10 : Int) < (sn : Int) := by omega
      have e2' : (w6.setCell ⟨g13, 1, none⟩ (.slice ra 70 rc)).cell? ⟨g13, 2, none⟩ = some (.slice sa sn sc) := by rw [cell_of_row _ g13 2 _ _ _ gP]; rfl
      have kQ : Kp [g13] (w6.setCell ⟨g13, 1, none⟩ (.slice ra 70 rc)) (w6.setCell ⟨g13, 1, none⟩ (.slice ra 70 rc)) := Kp.refl _ _
      have gQ := gP
      have K68 := kP.trans kQ
      have hne := unhide HGSN
      have HG8 := hide (K68.heap (unhide HG6) (by simpa using hne))
      have HK08 : Hid (Kp [] w (w6.setCell ⟨g13, 1, none⟩ (.slice ra 70 rc))) := (unhide HK06).then K68 (fun j hj => .inr (by have := unhide H13; simp at hj; omega))
      have hlt13 : ∀ q, q < w.heap.size → q ∉ [g13] := fun q hq => by have := unhide H13; simp; omega
      have HV8 : Hid (SigV (w6.setCell ⟨g13, 1, none⟩ (.slice ra 70 rc)) (.agg #[.int .i64 i, .slice ap np cp, .slice aq nq cq]) i (sgnP sd i d) (pthP sd i 4)) := (unhide HV5).apart13 hi16 (unhide HK56) K68 (unhide HGR6)
      have HM8 : Hid (Sl (w6.setCell ⟨g13, 1, none⟩ (.slice ra 70 rc)) (.slice am mm cm) ms) := ((unhide HM1).kept (unhide HK16) (by simp)).apart13 K68 (unhide HGR6)
      have HO8 : Hid (OwP (w6.setCell ⟨g13, 1, none⟩ (.slice ra 70 rc)) g1 tp) := by rw [unhide HTP]; exact pub13 ((unhide HO3).kept ((unhide HK35).trans (unhide HK56))) (unhide HGR6) (unhide HLP6) (unhide HLQ6) K68
      have HR8 : Hid (∃ ps qs, SigV (w6.setCell ⟨g13, 1, none⟩ (.slice ra 70 rc)) (.agg #[.int .i64 ri, .slice ra 70 rc, .slice sa sn sc]) ri ps qs) := by
        have p0 := (unhide HLP0).kept (unhide HK08)
        have q0 := (unhide HLQ0).kept (unhide HK08)
        exact ⟨_, _, _, _, _, _, rfl, p0.take (n := 70) (by have := unhide HRN; omega), rfl, q0, rfl⟩
      have HGQ := hide gQ
      clear kP gP kQ gQ K68 hne hlt13
      go_wp2_with fail
      obtain ⟨w8, hw8⟩ : ∃ w8, w8 = (w6.setCell ⟨g13, 1, none⟩ (.slice ra 70 rc)) := ⟨_, rfl⟩
      rw [← hw8] at HG8 HK08 HV8 HM8 HO8 HR8 HGQ ⊢
      clear hw8 e1 f1 e2 f2
      obtain ⟨rp, rq, hRV⟩ := unhide HR8
      obtain ⟨rpa, rpn, rpc, rqa, rqn, rqc, eraw⟩ : ∃ a b c a' b' c', (.agg #[.int .i64 ri, .slice a b c, .slice a' b' c'] : Value) = .agg #[.int .i64 ri, .slice ra 70 rc, .slice sa sn sc] := ⟨_, _, _, _, _, _, rfl⟩
      have HGR : Hid (∀ w', Kp [] w8.drew w' → w'.heap[g13]? = some (.cells #[.int .i64 ri, .slice rpa rpn rpc, .slice rqa rqn rqc] 33 (0, 0))) := fun w' k' => by
        have h1 := ((kp_drew w8).trans k').heap (unhide HGQ) (by simp)
        injection eraw with e
        rw [e]
        simpa using h1
      have HRV : Hid (∀ w', Kp [] w8.drew w' → SigV w' (.agg #[.int .i64 ri, .slice rpa rpn rpc, .slice rqa rqn rqc]) ri rp rq) := fun w' k' => by rw [eraw]; exact hRV.kept ((kp_drew w8).trans k')
      have HGS : Hid (∀ w', Kp [] w8.drew w' → w'.heap[gs]? = some (.cells #[.int .i64 i, .slice ap np cp, .slice aq nq cq] 33 (0, 0))) := fun w' k' => ((kp_drew w8).trans k').heap (unhide HG8) (by simp)
      have HVV : Hid (∀ w', Kp [] w8.drew w' → SigV w' (.agg #[.int .i64 i, .slice ap np cp, .slice aq nq cq]) i (sgnP sd i d) (pthP sd i 4)) := fun w' k' => (unhide HV8).kept ((kp_drew w8).trans k')
      have HMM : Hid (∀ w', Kp [] w8.drew w' → Sl w' (.slice am mm cm) ms) := fun w' k' => (unhide HM8).kept ((kp_drew w8).trans k') (by simp)
      have HOW : Hid (∀ w', Kp [] w8.drew w' → OwP w' g1 tp) := fun w' k' => (unhide HO8).kept ((kp_drew w8).trans k')
      have HGL : Hid (∀ w', Kp [] w8.drew w' → Gl w') := fun w' k' => (unhide HG).kept ((unhide HK08).trans ((kp_drew w8).trans k')) (by simp)
      clear hRV eraw HR8 HGQ HG8 HV8 HM8 HO8
      refine region_grow Tryd.mixed [Is (.pointer (some ⟨g1, 0, none⟩)), SlT (tp), Is (.slice am mm cm), Is (.agg #[.int .i64 i, .slice ap np cp, .slice aq nq cq]), Is (.int .i64 how), InT 9, Is (.int .i64 ax), Is (.int .u8 tn), AnyS, Is (.bool true), Is (.bool true), Is (.pointer (some ⟨g1, 0, none⟩)), SlT (tp), Is (.slice am mm cm), Is (.agg #[.int .i64 ri, .slice rpa rpn rpc, .slice rqa rqn rqc]), Is (.bool true), Is (.bool true), Is (.bool true), Is (.bool true), Is (.bool true), Is (.bool true)] [[(15, none)], [(43, some 0)], [(2, none)], [(16, none)], [(3, none)], [(47, some 4)], [(4, none)], [(5, none)], [(46, some 3), (48, some 5), (49, some 6), (50, some 7)], [(44, some 1), (45, some 2), (51, some 8)], [(52, some 9)], [(15, none), (53, some 10)], [(54, some 11), (53, some 10)], [(2, none), (53, some 10)], [(13, none), (53, some 10)], [(55, some 12), (56, some 13), (57, some 14), (53, some 10)], [(53, some 10), (58, some 15)], [(59, some 16)], [(60, some 17)], [(60, some 17), (61, some 18)], [(62, some 19)]] (by kernel_rfl) ?_ ?_ ?_
      · simp only [List.mem_cons, List.not_mem_nil, or_false]
        intro R hR
        rcases hR with rfl | rfl | rfl | rfl | rfl | rfl | rfl | rfl | rfl | rfl | rfl | rfl | rfl | rfl | rfl | rfl | rfl | rfl | rfl | rfl | rfl <;> first | exact stable_is _ | exact stable_sl _ | exact stable_in _ | exact stable_any
      · refine steps_cons (fun a w hk hn => ?_) ?_
        · have h15 : a.eval (.tmp 15) = .pointer (some ⟨g1, 0, none⟩) := hn.1
          clear hn
          refine wants_plain rfl ?_
          exact grown_move (.tmp 15) rfl h15
        refine steps_cons (fun a w hk hn => ?_) ?_
        · have h43 : a.eval (.tmp 43) = .pointer (some ⟨g1, 0, none⟩) := hn.1
          clear hn
          refine wants_plain rfl ?_
          refine grown_call (f := 12) rfl Tryd.func12 (by kernel_rfl) (by kernel_rfl) ?_
          simp only [List.map_toArray, List.map_cons, List.map_nil, h43]
          refine (own_publicP _ tp w (unhide HOW w hk)).mono ?_
          rintro e w' ⟨ao, m, c, rfl, R, hw⟩
          subst w'
          exact ⟨_, rfl, Kp.refl _ _, R⟩
        refine steps_cons (fun a w hk hn => ?_) ?_
        · have h2 : a.eval (.tmp 2) = .slice am mm cm := hn.1
          clear hn
          refine wants_plain rfl ?_
          exact grown_move (.tmp 2) rfl h2
        refine steps_cons (fun a w hk hn => ?_) ?_
        · have h16 : a.eval (.tmp 16) = .pointer (some ⟨gs, 0, none⟩) := hn.1
          clear hn
          refine wants_plain rfl ?_
          exact grown_loadsig (.tmp 16) rfl gs _ _ _ _ h16 (unhide HGS w hk) rfl
        refine steps_cons (fun a w hk hn => ?_) ?_
        · have h3 : a.eval (.tmp 3) = .int .i64 how := hn.1
          clear hn
          refine wants_plain rfl ?_
          exact grown_move (.tmp 3) rfl h3
        refine steps_cons (fun a w hk hn => ?_) ?_
        · have h47 : a.eval (.tmp 47) = .int .i64 how := hn.1
          clear hn
          refine wants_plain rfl ?_
          refine grown_call (f := 23) rfl Tryd.func23 (by kernel_rfl) (by kernel_rfl) ?_
          simp only [List.map_toArray, List.map_cons, List.map_nil, h47]
          refine (within_any how 0 8 w (by omega) (by omega) (by omega) (unhide HHOW)).mono ?_
          rintro e w' ⟨x, rfl, h0, h1, hw⟩
          subst w'
          obtain ⟨y, rfl⟩ := Int.eq_ofNat_of_zero_le h0
          exact ⟨_, rfl, Kp.refl _ _, y, rfl, by omega⟩
        refine steps_cons (fun a w hk hn => ?_) ?_
        · have h4 : a.eval (.tmp 4) = .int .i64 ax := hn.1
          clear hn
          refine wants_plain rfl ?_
          exact grown_move (.tmp 4) rfl h4
        refine steps_cons (fun a w hk hn => ?_) ?_
        · have h5 : a.eval (.tmp 5) = .int .u8 tn := hn.1
          clear hn
          refine wants_plain rfl ?_
          exact grown_move (.tmp 5) rfl h5
        refine steps_cons (fun a w hk hn => ?_) ?_
        · have h46 : a.eval (.tmp 46) = .agg #[.int .i64 i, .slice ap np cp, .slice aq nq cq] := hn.1
          have h48 : (InT 9) (a.eval (.tmp 48)) w := hn.2.1
          have h49 : a.eval (.tmp 49) = .int .i64 ax := hn.2.2.1
          have h50 : a.eval (.tmp 50) = .int .u8 tn := hn.2.2.2.1
          clear hn
          refine wants_plain rfl ?_
          refine grown_call (f := 18) rfl Tryd.func18 (by kernel_rfl) (by kernel_rfl) ?_
          simp only [List.map_toArray, List.map_cons, List.map_nil, h46, h49, h50]
          refine (turned_in h48 (unhide HVV w hk) hi16 (unhide HAX) (unhide HTN)).mono ?_
          rintro e w' ⟨v', rfl, i', ps', qs', V, hb, _, K⟩
          exact ⟨_, rfl, K, i', ps', qs', V, hb⟩
        refine steps_cons (fun a w hk hn => ?_) ?_
        · have h44 : Sl w (a.eval (.tmp 44)) (tp) := hn.1
          have h45 : a.eval (.tmp 45) = .slice am mm cm := hn.2.1
          have h51 : (AnyS) (a.eval (.tmp 51)) w := hn.2.2.1
          clear hn
          refine wants_plain rfl ?_
          refine grown_call (f := 17) rfl Tryd.func17 (by kernel_rfl) (by kernel_rfl) ?_
          simp only [List.map_toArray, List.map_cons, List.map_nil, h45]
          refine (same_any' h51 h44 (unhide HTB) (unhide HMM w hk) (unhide HBm) (by omega) (unhide HGL w hk)).mono ?_
          rintro e w' ⟨rfl, K⟩
          exact ⟨_, rfl, K, rfl⟩
        refine steps_cons (fun a w hk hn => ?_) ?_
        · have h52 : a.eval (.tmp 52) = .bool true := hn.1
          clear hn
          refine wants_plain rfl ?_
          exact grown_move (.tmp 52) rfl h52
        refine steps_cons (fun a w hk hn => ?_) ?_
        · have h15 : a.eval (.tmp 15) = .pointer (some ⟨g1, 0, none⟩) := hn.1
          have h53 : a.eval (.tmp 53) = .bool true := hn.2.1
          clear hn
          refine wants_guard (d := 53) rfl rfl h53 ?_
          exact grown_move (.tmp 15) rfl h15
        refine steps_cons (fun a w hk hn => ?_) ?_
        · have h54 : a.eval (.tmp 54) = .pointer (some ⟨g1, 0, none⟩) := hn.1
          have h53 : a.eval (.tmp 53) = .bool true := hn.2.1
          clear hn
          refine wants_guard (d := 53) rfl rfl h53 ?_
          refine grown_call (f := 12) rfl Tryd.func12 (by kernel_rfl) (by kernel_rfl) ?_
          simp only [List.map_toArray, List.map_cons, List.map_nil, h54]
          refine (own_publicP _ tp w (unhide HOW w hk)).mono ?_
          rintro e w' ⟨ao, m, c, rfl, R, hw⟩
          subst w'
          exact ⟨_, rfl, Kp.refl _ _, R⟩
        refine steps_cons (fun a w hk hn => ?_) ?_
        · have h2 : a.eval (.tmp 2) = .slice am mm cm := hn.1
          have h53 : a.eval (.tmp 53) = .bool true := hn.2.1
          clear hn
          refine wants_guard (d := 53) rfl rfl h53 ?_
          exact grown_move (.tmp 2) rfl h2
        refine steps_cons (fun a w hk hn => ?_) ?_
        · have h13 : a.eval (.tmp 13) = .pointer (some ⟨g13, 0, none⟩) := hn.1
          have h53 : a.eval (.tmp 53) = .bool true := hn.2.1
          clear hn
          refine wants_guard (d := 53) rfl rfl h53 ?_
          exact grown_loadsig (.tmp 13) rfl g13 _ _ _ _ h13 (unhide HGR w hk) rfl
        refine steps_cons (fun a w hk hn => ?_) ?_
        · have h55 : Sl w (a.eval (.tmp 55)) (tp) := hn.1
          have h56 : a.eval (.tmp 56) = .slice am mm cm := hn.2.1
          have h57 : a.eval (.tmp 57) = .agg #[.int .i64 ri, .slice rpa rpn rpc, .slice rqa rqn rqc] := hn.2.2.1
          have h53 : a.eval (.tmp 53) = .bool true := hn.2.2.2.1
          clear hn
          refine wants_guard (d := 53) rfl rfl h53 ?_
          refine grown_call (f := 17) rfl Tryd.func17 (by kernel_rfl) (by kernel_rfl) ?_
          simp only [List.map_toArray, List.map_cons, List.map_nil, h56, h57]
          refine (lsame_any _ tp _ ms _ ri _ _ w h55 (unhide HTB) (unhide HMM w hk) (unhide HBm) (by omega) (unhide HRV w hk) (unhide HRB) (unhide HGL w hk)).mono ?_
          rintro e w' ⟨rfl, K⟩
          exact ⟨_, rfl, K, rfl⟩
        refine steps_cons (fun a w hk hn => ?_) ?_
        · have h53 : a.eval (.tmp 53) = .bool true := hn.1
          have h58 : a.eval (.tmp 58) = .bool true := hn.2.1
          clear hn
          refine wants_plain rfl ?_
          exact grown_pick _ _ _ true rfl h53 h58
        refine steps_cons (fun a w hk hn => ?_) ?_
        · have h59 : a.eval (.tmp 59) = .bool true := hn.1
          clear hn
          refine wants_plain rfl ?_
          exact grown_move (.tmp 59) rfl h59
        refine steps_cons (fun a w hk hn => ?_) ?_
        · have h60 : a.eval (.tmp 60) = .bool true := hn.1
          clear hn
          refine wants_guard (d := 60) rfl rfl h60 ?_
          refine grown_call (f := 20) rfl Tryd.func20 (by kernel_rfl) (by kernel_rfl) ?_
          simp only [List.map_toArray, List.map_nil]
          refine (sknown_any w (unhide HGL w hk)).mono ?_
          rintro e w' ⟨rfl, K⟩
          exact ⟨_, rfl, K, rfl⟩
        refine steps_cons (fun a w hk hn => ?_) ?_
        · have h60 : a.eval (.tmp 60) = .bool true := hn.1
          have h61 : a.eval (.tmp 61) = .bool true := hn.2.1
          clear hn
          refine wants_plain rfl ?_
          exact grown_pick _ _ _ true rfl h60 h61
        refine steps_cons (fun a w hk hn => ?_) ?_
        · have h62 : a.eval (.tmp 62) = .bool true := hn.1
          clear hn
          refine wants_plain rfl ?_
          exact grown_assign (.tmp 62) rfl h62
        exact trivial
      intro W1 hkW1
      rintro _ rfl
      intro v44 h44
      rintro _ rfl
      rintro _ rfl
      rintro _ rfl
      intro v48 h48
      rintro _ rfl
      rintro _ rfl
      intro v51 h51
      rintro _ rfl
      rintro _ rfl
      rintro _ rfl
      intro v55 h55
      rintro _ rfl
      rintro _ rfl
      rintro _ rfl
      rintro _ rfl
      rintro _ rfl
      rintro _ rfl
      rintro _ rfl
      rintro _ rfl
      refine fin_nil ?_
      simp only [Act.put, List.set_cons_zero, List.set_cons_succ, List.setIfInBounds_toArray]
      go_wp2_with fail
      go_ret
      exact ⟨rfl, ((unhide HK08).trans ((kp_drew w8).trans hkW1)).below (Nat.le_refl _) (by simp)⟩
  · by_cases cQ : 10 < sn
    · skip
      have hP70 : ¬ (70 : Int) < (rn : Int) := by omega
      have kP : Kp [g13] w6 w6 := Kp.refl _ _
      have gP := unhide HGR6
      have hQ10 : (10 : Int) < (sn : Int) := by omega
      have e2' : w6.cell? ⟨g13, 2, none⟩ = some (.slice sa sn sc) := by rw [cell_of_row _ g13 2 _ _ _ gP]; rfl
      have f2' : w6.frozen? ⟨g13, 2, none⟩ = false := frozen_of_row _ g13 2 _ _ gP
      have hrq := run_cut sa sn sc 10 w6 (by omega) (unhide HSC) (unhide HSA)
      have hrq1 : (Instr.sliceAt 31 (.slice sa sn sc) none (some (.int .i64 10)) none).run Tryd.prog w6 = .ok (.slice sa 10 sc) w6 := hrq
      clear hrq
      have kQ := setCell_kp w6 g13 2 (.slice sa 10 sc)
      have gQ := heap_setCell_same w6 g13 2 _ _ (.slice sa 10 sc) gP
      have K68 := kP.trans kQ
      have hne := unhide HGSN
      have HG8 := hide (K68.heap (unhide HG6) (by simpa using hne))
      have HK08 : Hid (Kp [] w (w6.setCell ⟨g13, 2, none⟩ (.slice sa 10 sc))) := (unhide HK06).then K68 (fun j hj => .inr (by have := unhide H13; simp at hj; omega))
      have hlt13 : ∀ q, q < w.heap.size → q ∉ [g13] := fun q hq => by have := unhide H13; simp; omega
      have HV8 : Hid (SigV (w6.setCell ⟨g13, 2, none⟩ (.slice sa 10 sc)) (.agg #[.int .i64 i, .slice ap np cp, .slice aq nq cq]) i (sgnP sd i d) (pthP sd i 4)) := (unhide HV5).apart13 hi16 (unhide HK56) K68 (unhide HGR6)
      have HM8 : Hid (Sl (w6.setCell ⟨g13, 2, none⟩ (.slice sa 10 sc)) (.slice am mm cm) ms) := ((unhide HM1).kept (unhide HK16) (by simp)).apart13 K68 (unhide HGR6)
      have HO8 : Hid (OwP (w6.setCell ⟨g13, 2, none⟩ (.slice sa 10 sc)) g1 tp) := by rw [unhide HTP]; exact pub13 ((unhide HO3).kept ((unhide HK35).trans (unhide HK56))) (unhide HGR6) (unhide HLP6) (unhide HLQ6) K68
      have HR8 : Hid (∃ ps qs, SigV (w6.setCell ⟨g13, 2, none⟩ (.slice sa 10 sc)) (.agg #[.int .i64 ri, .slice ra rn rc, .slice sa 10 sc]) ri ps qs) := by
        have p0 := (unhide HLP0).kept (unhide HK08)
        have q0 := (unhide HLQ0).kept (unhide HK08)
        exact ⟨_, _, _, _, _, _, rfl, p0, rfl, q0.take (n := 10) (by have := unhide HSN; omega), rfl⟩
      have HGQ := hide gQ
      clear kP gP kQ gQ K68 hne hlt13
      go_wp2_with fail
      obtain ⟨w8, hw8⟩ : ∃ w8, w8 = (w6.setCell ⟨g13, 2, none⟩ (.slice sa 10 sc)) := ⟨_, rfl⟩
      rw [← hw8] at HG8 HK08 HV8 HM8 HO8 HR8 HGQ ⊢
      clear hw8 e1 f1 e2 f2
      obtain ⟨rp, rq, hRV⟩ := unhide HR8
      obtain ⟨rpa, rpn, rpc, rqa, rqn, rqc, eraw⟩ : ∃ a b c a' b' c', (.agg #[.int .i64 ri, .slice a b c, .slice a' b' c'] : Value) = .agg #[.int .i64 ri, .slice ra rn rc, .slice sa 10 sc] := ⟨_, _, _, _, _, _, rfl⟩
      have HGR : Hid (∀ w', Kp [] w8.drew w' → w'.heap[g13]? = some (.cells #[.int .i64 ri, .slice rpa rpn rpc, .slice rqa rqn rqc] 33 (0, 0))) := fun w' k' => by
        have h1 := ((kp_drew w8).trans k').heap (unhide HGQ) (by simp)
        injection eraw with e
        rw [e]
        simpa using h1
      have HRV : Hid (∀ w', Kp [] w8.drew w' → SigV w' (.agg #[.int .i64 ri, .slice rpa rpn rpc, .slice rqa rqn rqc]) ri rp rq) := fun w' k' => by rw [eraw]; exact hRV.kept ((kp_drew w8).trans k')
      have HGS : Hid (∀ w', Kp [] w8.drew w' → w'.heap[gs]? = some (.cells #[.int .i64 i, .slice ap np cp, .slice aq nq cq] 33 (0, 0))) := fun w' k' => ((kp_drew w8).trans k').heap (unhide HG8) (by simp)
      have HVV : Hid (∀ w', Kp [] w8.drew w' → SigV w' (.agg #[.int .i64 i, .slice ap np cp, .slice aq nq cq]) i (sgnP sd i d) (pthP sd i 4)) := fun w' k' => (unhide HV8).kept ((kp_drew w8).trans k')
      have HMM : Hid (∀ w', Kp [] w8.drew w' → Sl w' (.slice am mm cm) ms) := fun w' k' => (unhide HM8).kept ((kp_drew w8).trans k') (by simp)
      have HOW : Hid (∀ w', Kp [] w8.drew w' → OwP w' g1 tp) := fun w' k' => (unhide HO8).kept ((kp_drew w8).trans k')
      have HGL : Hid (∀ w', Kp [] w8.drew w' → Gl w') := fun w' k' => (unhide HG).kept ((unhide HK08).trans ((kp_drew w8).trans k')) (by simp)
      clear hRV eraw HR8 HGQ HG8 HV8 HM8 HO8
      refine region_grow Tryd.mixed [Is (.pointer (some ⟨g1, 0, none⟩)), SlT (tp), Is (.slice am mm cm), Is (.agg #[.int .i64 i, .slice ap np cp, .slice aq nq cq]), Is (.int .i64 how), InT 9, Is (.int .i64 ax), Is (.int .u8 tn), AnyS, Is (.bool true), Is (.bool true), Is (.pointer (some ⟨g1, 0, none⟩)), SlT (tp), Is (.slice am mm cm), Is (.agg #[.int .i64 ri, .slice rpa rpn rpc, .slice rqa rqn rqc]), Is (.bool true), Is (.bool true), Is (.bool true), Is (.bool true), Is (.bool true), Is (.bool true)] [[(15, none)], [(43, some 0)], [(2, none)], [(16, none)], [(3, none)], [(47, some 4)], [(4, none)], [(5, none)], [(46, some 3), (48, some 5), (49, some 6), (50, some 7)], [(44, some 1), (45, some 2), (51, some 8)], [(52, some 9)], [(15, none), (53, some 10)], [(54, some 11), (53, some 10)], [(2, none), (53, some 10)], [(13, none), (53, some 10)], [(55, some 12), (56, some 13), (57, some 14), (53, some 10)], [(53, some 10), (58, some 15)], [(59, some 16)], [(60, some 17)], [(60, some 17), (61, some 18)], [(62, some 19)]] (by kernel_rfl) ?_ ?_ ?_
      · simp only [List.mem_cons, List.not_mem_nil, or_false]
        intro R hR
        rcases hR with rfl | rfl | rfl | rfl | rfl | rfl | rfl | rfl | rfl | rfl | rfl | rfl | rfl | rfl | rfl | rfl | rfl | rfl | rfl | rfl | rfl <;> first | exact stable_is _ | exact stable_sl _ | exact stable_in _ | exact stable_any
      · refine steps_cons (fun a w hk hn => ?_) ?_
        · have h15 : a.eval (.tmp 15) = .pointer (some ⟨g1, 0, none⟩) := hn.1
          clear hn
          refine wants_plain rfl ?_
          exact grown_move (.tmp 15) rfl h15
        refine steps_cons (fun a w hk hn => ?_) ?_
        · have h43 : a.eval (.tmp 43) = .pointer (some ⟨g1, 0, none⟩) := hn.1
          clear hn
          refine wants_plain rfl ?_
          refine grown_call (f := 12) rfl Tryd.func12 (by kernel_rfl) (by kernel_rfl) ?_
          simp only [List.map_toArray, List.map_cons, List.map_nil, h43]
          refine (own_publicP _ tp w (unhide HOW w hk)).mono ?_
          rintro e w' ⟨ao, m, c, rfl, R, hw⟩
          subst w'
          exact ⟨_, rfl, Kp.refl _ _, R⟩
        refine steps_cons (fun a w hk hn => ?_) ?_
        · have h2 : a.eval (.tmp 2) = .slice am mm cm := hn.1
          clear hn
          refine wants_plain rfl ?_
          exact grown_move (.tmp 2) rfl h2
        refine steps_cons (fun a w hk hn => ?_) ?_
        · have h16 : a.eval (.tmp 16) = .pointer (some ⟨gs, 0, none⟩) := hn.1
          clear hn
          refine wants_plain rfl ?_
          exact grown_loadsig (.tmp 16) rfl gs _ _ _ _ h16 (unhide HGS w hk) rfl
        refine steps_cons (fun a w hk hn => ?_) ?_
        · have h3 : a.eval (.tmp 3) = .int .i64 how := hn.1
          clear hn
          refine wants_plain rfl ?_
          exact grown_move (.tmp 3) rfl h3
        refine steps_cons (fun a w hk hn => ?_) ?_
        · have h47 : a.eval (.tmp 47) = .int .i64 how := hn.1
          clear hn
          refine wants_plain rfl ?_
          refine grown_call (f := 23) rfl Tryd.func23 (by kernel_rfl) (by kernel_rfl) ?_
          simp only [List.map_toArray, List.map_cons, List.map_nil, h47]
          refine (within_any how 0 8 w (by omega) (by omega) (by omega) (unhide HHOW)).mono ?_
          rintro e w' ⟨x, rfl, h0, h1, hw⟩
          subst w'
          obtain ⟨y, rfl⟩ := Int.eq_ofNat_of_zero_le h0
          exact ⟨_, rfl, Kp.refl _ _, y, rfl, by omega⟩
        refine steps_cons (fun a w hk hn => ?_) ?_
        · have h4 : a.eval (.tmp 4) = .int .i64 ax := hn.1
          clear hn
          refine wants_plain rfl ?_
          exact grown_move (.tmp 4) rfl h4
        refine steps_cons (fun a w hk hn => ?_) ?_
        · have h5 : a.eval (.tmp 5) = .int .u8 tn := hn.1
          clear hn
          refine wants_plain rfl ?_
          exact grown_move (.tmp 5) rfl h5
        refine steps_cons (fun a w hk hn => ?_) ?_
        · have h46 : a.eval (.tmp 46) = .agg #[.int .i64 i, .slice ap np cp, .slice aq nq cq] := hn.1
          have h48 : (InT 9) (a.eval (.tmp 48)) w := hn.2.1
          have h49 : a.eval (.tmp 49) = .int .i64 ax := hn.2.2.1
          have h50 : a.eval (.tmp 50) = .int .u8 tn := hn.2.2.2.1
          clear hn
          refine wants_plain rfl ?_
          refine grown_call (f := 18) rfl Tryd.func18 (by kernel_rfl) (by kernel_rfl) ?_
          simp only [List.map_toArray, List.map_cons, List.map_nil, h46, h49, h50]
          refine (turned_in h48 (unhide HVV w hk) hi16 (unhide HAX) (unhide HTN)).mono ?_
          rintro e w' ⟨v', rfl, i', ps', qs', V, hb, _, K⟩
          exact ⟨_, rfl, K, i', ps', qs', V, hb⟩
        refine steps_cons (fun a w hk hn => ?_) ?_
        · have h44 : Sl w (a.eval (.tmp 44)) (tp) := hn.1
          have h45 : a.eval (.tmp 45) = .slice am mm cm := hn.2.1
          have h51 : (AnyS) (a.eval (.tmp 51)) w := hn.2.2.1
          clear hn
          refine wants_plain rfl ?_
          refine grown_call (f := 17) rfl Tryd.func17 (by kernel_rfl) (by kernel_rfl) ?_
          simp only [List.map_toArray, List.map_cons, List.map_nil, h45]
          refine (same_any' h51 h44 (unhide HTB) (unhide HMM w hk) (unhide HBm) (by omega) (unhide HGL w hk)).mono ?_
          rintro e w' ⟨rfl, K⟩
          exact ⟨_, rfl, K, rfl⟩
        refine steps_cons (fun a w hk hn => ?_) ?_
        · have h52 : a.eval (.tmp 52) = .bool true := hn.1
          clear hn
          refine wants_plain rfl ?_
          exact grown_move (.tmp 52) rfl h52
        refine steps_cons (fun a w hk hn => ?_) ?_
        · have h15 : a.eval (.tmp 15) = .pointer (some ⟨g1, 0, none⟩) := hn.1
          have h53 : a.eval (.tmp 53) = .bool true := hn.2.1
          clear hn
          refine wants_guard (d := 53) rfl rfl h53 ?_
          exact grown_move (.tmp 15) rfl h15
        refine steps_cons (fun a w hk hn => ?_) ?_
        · have h54 : a.eval (.tmp 54) = .pointer (some ⟨g1, 0, none⟩) := hn.1
          have h53 : a.eval (.tmp 53) = .bool true := hn.2.1
          clear hn
          refine wants_guard (d := 53) rfl rfl h53 ?_
          refine grown_call (f := 12) rfl Tryd.func12 (by kernel_rfl) (by kernel_rfl) ?_
          simp only [List.map_toArray, List.map_cons, List.map_nil, h54]
          refine (own_publicP _ tp w (unhide HOW w hk)).mono ?_
          rintro e w' ⟨ao, m, c, rfl, R, hw⟩
          subst w'
          exact ⟨_, rfl, Kp.refl _ _, R⟩
        refine steps_cons (fun a w hk hn => ?_) ?_
        · have h2 : a.eval (.tmp 2) = .slice am mm cm := hn.1
          have h53 : a.eval (.tmp 53) = .bool true := hn.2.1
          clear hn
          refine wants_guard (d := 53) rfl rfl h53 ?_
          exact grown_move (.tmp 2) rfl h2
        refine steps_cons (fun a w hk hn => ?_) ?_
        · have h13 : a.eval (.tmp 13) = .pointer (some ⟨g13, 0, none⟩) := hn.1
          have h53 : a.eval (.tmp 53) = .bool true := hn.2.1
          clear hn
          refine wants_guard (d := 53) rfl rfl h53 ?_
          exact grown_loadsig (.tmp 13) rfl g13 _ _ _ _ h13 (unhide HGR w hk) rfl
        refine steps_cons (fun a w hk hn => ?_) ?_
        · have h55 : Sl w (a.eval (.tmp 55)) (tp) := hn.1
          have h56 : a.eval (.tmp 56) = .slice am mm cm := hn.2.1
          have h57 : a.eval (.tmp 57) = .agg #[.int .i64 ri, .slice rpa rpn rpc, .slice rqa rqn rqc] := hn.2.2.1
          have h53 : a.eval (.tmp 53) = .bool true := hn.2.2.2.1
          clear hn
          refine wants_guard (d := 53) rfl rfl h53 ?_
          refine grown_call (f := 17) rfl Tryd.func17 (by kernel_rfl) (by kernel_rfl) ?_
          simp only [List.map_toArray, List.map_cons, List.map_nil, h56, h57]
          refine (lsame_any _ tp _ ms _ ri _ _ w h55 (unhide HTB) (unhide HMM w hk) (unhide HBm) (by omega) (unhide HRV w hk) (unhide HRB) (unhide HGL w hk)).mono ?_
          rintro e w' ⟨rfl, K⟩
          exact ⟨_, rfl, K, rfl⟩
        refine steps_cons (fun a w hk hn => ?_) ?_
        · have h53 : a.eval (.tmp 53) = .bool true := hn.1
          have h58 : a.eval (.tmp 58) = .bool true := hn.2.1
          clear hn
          refine wants_plain rfl ?_
          exact grown_pick _ _ _ true rfl h53 h58
        refine steps_cons (fun a w hk hn => ?_) ?_
        · have h59 : a.eval (.tmp 59) = .bool true := hn.1
          clear hn
          refine wants_plain rfl ?_
          exact grown_move (.tmp 59) rfl h59
        refine steps_cons (fun a w hk hn => ?_) ?_
        · have h60 : a.eval (.tmp 60) = .bool true := hn.1
          clear hn
          refine wants_guard (d := 60) rfl rfl h60 ?_
          refine grown_call (f := 20) rfl Tryd.func20 (by kernel_rfl) (by kernel_rfl) ?_
          simp only [List.map_toArray, List.map_nil]
          refine (sknown_any w (unhide HGL w hk)).mono ?_
          rintro e w' ⟨rfl, K⟩
          exact ⟨_, rfl, K, rfl⟩
        refine steps_cons (fun a w hk hn => ?_) ?_
        · have h60 : a.eval (.tmp 60) = .bool true := hn.1
          have h61 : a.eval (.tmp 61) = .bool true := hn.2.1
          clear hn
          refine wants_plain rfl ?_
          exact grown_pick _ _ _ true rfl h60 h61
        refine steps_cons (fun a w hk hn => ?_) ?_
        · have h62 : a.eval (.tmp 62) = .bool true := hn.1
          clear hn
          refine wants_plain rfl ?_
          exact grown_assign (.tmp 62) rfl h62
        exact trivial
      intro W1 hkW1
      rintro _ rfl
      intro v44 h44
      rintro _ rfl
      rintro _ rfl
      rintro _ rfl
      intro v48 h48
      rintro _ rfl
      rintro _ rfl
      intro v51 h51
      rintro _ rfl
      rintro _ rfl
      rintro _ rfl
      intro v55 h55
      rintro _ rfl
      rintro _ rfl
      rintro _ rfl
      rintro _ rfl
      rintro _ rfl
      rintro _ rfl
      rintro _ rfl
      rintro _ rfl
      refine fin_nil ?_
      simp only [Act.put, List.set_cons_zero, List.set_cons_succ, List.setIfInBounds_toArray]
      go_wp2_with fail
      go_ret
      exact ⟨rfl, ((unhide HK08).trans ((kp_drew w8).trans hkW1)).below (Nat.le_refl _) (by simp)⟩
    · skip
      have hP70 : ¬ (70 : Int) < (rn : Int) := by omega
      have kP : Kp [g13] w6 w6 := Kp.refl _ _
      have gP := unhide HGR6
      have hQ10 : ¬ (10 : Int) < (sn : Int) := by omega
      have e2' : w6.cell? ⟨g13, 2, none⟩ = some (.slice sa sn sc) := by rw [cell_of_row _ g13 2 _ _ _ gP]; rfl
      have kQ : Kp [g13] w6 w6 := Kp.refl _ _
      have gQ := gP
      have K68 := kP.trans kQ
      have hne := unhide HGSN
      have HG8 := hide (K68.heap (unhide HG6) (by simpa using hne))
      have HK08 : Hid (Kp [] w w6) := (unhide HK06).then K68 (fun j hj => .inr (by have := unhide H13; simp at hj; omega))
      have hlt13 : ∀ q, q < w.heap.size → q ∉ [g13] := fun q hq => by have := unhide H13; simp; omega
      have HV8 : Hid (SigV w6 (.agg #[.int .i64 i, .slice ap np cp, .slice aq nq cq]) i (sgnP sd i d) (pthP sd i 4)) := (unhide HV5).apart13 hi16 (unhide HK56) K68 (unhide HGR6)
      have HM8 : Hid (Sl w6 (.slice am mm cm) ms) := ((unhide HM1).kept (unhide HK16) (by simp)).apart13 K68 (unhide HGR6)
      have HO8 : Hid (OwP w6 g1 tp) := by rw [unhide HTP]; exact pub13 ((unhide HO3).kept ((unhide HK35).trans (unhide HK56))) (unhide HGR6) (unhide HLP6) (unhide HLQ6) K68
      have HR8 : Hid (∃ ps qs, SigV w6 (.agg #[.int .i64 ri, .slice ra rn rc, .slice sa sn sc]) ri ps qs) := by
        have p0 := (unhide HLP0).kept (unhide HK08)
        have q0 := (unhide HLQ0).kept (unhide HK08)
        exact ⟨_, _, _, _, _, _, rfl, p0, rfl, q0, rfl⟩
      have HGQ := hide gQ
      clear kP gP kQ gQ K68 hne hlt13
      go_wp2_with fail
      obtain ⟨w8, hw8⟩ : ∃ w8, w8 = w6 := ⟨_, rfl⟩
      rw [← hw8] at HG8 HK08 HV8 HM8 HO8 HR8 HGQ ⊢
      clear hw8 e1 f1 e2 f2
      obtain ⟨rp, rq, hRV⟩ := unhide HR8
      obtain ⟨rpa, rpn, rpc, rqa, rqn, rqc, eraw⟩ : ∃ a b c a' b' c', (.agg #[.int .i64 ri, .slice a b c, .slice a' b' c'] : Value) = .agg #[.int .i64 ri, .slice ra rn rc, .slice sa sn sc] := ⟨_, _, _, _, _, _, rfl⟩
      have HGR : Hid (∀ w', Kp [] w8.drew w' → w'.heap[g13]? = some (.cells #[.int .i64 ri, .slice rpa rpn rpc, .slice rqa rqn rqc] 33 (0, 0))) := fun w' k' => by
        have h1 := ((kp_drew w8).trans k').heap (unhide HGQ) (by simp)
        injection eraw with e
        rw [e]
        simpa using h1
      have HRV : Hid (∀ w', Kp [] w8.drew w' → SigV w' (.agg #[.int .i64 ri, .slice rpa rpn rpc, .slice rqa rqn rqc]) ri rp rq) := fun w' k' => by rw [eraw]; exact hRV.kept ((kp_drew w8).trans k')
      have HGS : Hid (∀ w', Kp [] w8.drew w' → w'.heap[gs]? = some (.cells #[.int .i64 i, .slice ap np cp, .slice aq nq cq] 33 (0, 0))) := fun w' k' => ((kp_drew w8).trans k').heap (unhide HG8) (by simp)
      have HVV : Hid (∀ w', Kp [] w8.drew w' → SigV w' (.agg #[.int .i64 i, .slice ap np cp, .slice aq nq cq]) i (sgnP sd i d) (pthP sd i 4)) := fun w' k' => (unhide HV8).kept ((kp_drew w8).trans k')
      have HMM : Hid (∀ w', Kp [] w8.drew w' → Sl w' (.slice am mm cm) ms) := fun w' k' => (unhide HM8).kept ((kp_drew w8).trans k') (by simp)
      have HOW : Hid (∀ w', Kp [] w8.drew w' → OwP w' g1 tp) := fun w' k' => (unhide HO8).kept ((kp_drew w8).trans k')
      have HGL : Hid (∀ w', Kp [] w8.drew w' → Gl w') := fun w' k' => (unhide HG).kept ((unhide HK08).trans ((kp_drew w8).trans k')) (by simp)
      clear hRV eraw HR8 HGQ HG8 HV8 HM8 HO8
      refine region_grow Tryd.mixed [Is (.pointer (some ⟨g1, 0, none⟩)), SlT (tp), Is (.slice am mm cm), Is (.agg #[.int .i64 i, .slice ap np cp, .slice aq nq cq]), Is (.int .i64 how), InT 9, Is (.int .i64 ax), Is (.int .u8 tn), AnyS, Is (.bool true), Is (.bool true), Is (.pointer (some ⟨g1, 0, none⟩)), SlT (tp), Is (.slice am mm cm), Is (.agg #[.int .i64 ri, .slice rpa rpn rpc, .slice rqa rqn rqc]), Is (.bool true), Is (.bool true), Is (.bool true), Is (.bool true), Is (.bool true), Is (.bool true)] [[(15, none)], [(43, some 0)], [(2, none)], [(16, none)], [(3, none)], [(47, some 4)], [(4, none)], [(5, none)], [(46, some 3), (48, some 5), (49, some 6), (50, some 7)], [(44, some 1), (45, some 2), (51, some 8)], [(52, some 9)], [(15, none), (53, some 10)], [(54, some 11), (53, some 10)], [(2, none), (53, some 10)], [(13, none), (53, some 10)], [(55, some 12), (56, some 13), (57, some 14), (53, some 10)], [(53, some 10), (58, some 15)], [(59, some 16)], [(60, some 17)], [(60, some 17), (61, some 18)], [(62, some 19)]] (by kernel_rfl) ?_ ?_ ?_
      · simp only [List.mem_cons, List.not_mem_nil, or_false]
        intro R hR
        rcases hR with rfl | rfl | rfl | rfl | rfl | rfl | rfl | rfl | rfl | rfl | rfl | rfl | rfl | rfl | rfl | rfl | rfl | rfl | rfl | rfl | rfl <;> first | exact stable_is _ | exact stable_sl _ | exact stable_in _ | exact stable_any
      · refine steps_cons (fun a w hk hn => ?_) ?_
        · have h15 : a.eval (.tmp 15) = .pointer (some ⟨g1, 0, none⟩) := hn.1
          clear hn
          refine wants_plain rfl ?_
          exact grown_move (.tmp 15) rfl h15
        refine steps_cons (fun a w hk hn => ?_) ?_
        · have h43 : a.eval (.tmp 43) = .pointer (some ⟨g1, 0, none⟩) := hn.1
          clear hn
          refine wants_plain rfl ?_
          refine grown_call (f := 12) rfl Tryd.func12 (by kernel_rfl) (by kernel_rfl) ?_
          simp only [List.map_toArray, List.map_cons, List.map_nil, h43]
          refine (own_publicP _ tp w (unhide HOW w hk)).mono ?_
          rintro e w' ⟨ao, m, c, rfl, R, hw⟩
          subst w'
          exact ⟨_, rfl, Kp.refl _ _, R⟩
        refine steps_cons (fun a w hk hn => ?_) ?_
        · have h2 : a.eval (.tmp 2) = .slice am mm cm := hn.1
          clear hn
          refine wants_plain rfl ?_
          exact grown_move (.tmp 2) rfl h2
        refine steps_cons (fun a w hk hn => ?_) ?_
        · have h16 : a.eval (.tmp 16) = .pointer (some ⟨gs, 0, none⟩) := hn.1
          clear hn
          refine wants_plain rfl ?_
          exact grown_loadsig (.tmp 16) rfl gs _ _ _ _ h16 (unhide HGS w hk) rfl
        refine steps_cons (fun a w hk hn => ?_) ?_
        · have h3 : a.eval (.tmp 3) = .int .i64 how := hn.1
          clear hn
          refine wants_plain rfl ?_
          exact grown_move (.tmp 3) rfl h3
        refine steps_cons (fun a w hk hn => ?_) ?_
        · have h47 : a.eval (.tmp 47) = .int .i64 how := hn.1
          clear hn
          refine wants_plain rfl ?_
          refine grown_call (f := 23) rfl Tryd.func23 (by kernel_rfl) (by kernel_rfl) ?_
          simp only [List.map_toArray, List.map_cons, List.map_nil, h47]
          refine (within_any how 0 8 w (by omega) (by omega) (by omega) (unhide HHOW)).mono ?_
          rintro e w' ⟨x, rfl, h0, h1, hw⟩
          subst w'
          obtain ⟨y, rfl⟩ := Int.eq_ofNat_of_zero_le h0
          exact ⟨_, rfl, Kp.refl _ _, y, rfl, by omega⟩
        refine steps_cons (fun a w hk hn => ?_) ?_
        · have h4 : a.eval (.tmp 4) = .int .i64 ax := hn.1
          clear hn
          refine wants_plain rfl ?_
          exact grown_move (.tmp 4) rfl h4
        refine steps_cons (fun a w hk hn => ?_) ?_
        · have h5 : a.eval (.tmp 5) = .int .u8 tn := hn.1
          clear hn
          refine wants_plain rfl ?_
          exact grown_move (.tmp 5) rfl h5
        refine steps_cons (fun a w hk hn => ?_) ?_
        · have h46 : a.eval (.tmp 46) = .agg #[.int .i64 i, .slice ap np cp, .slice aq nq cq] := hn.1
          have h48 : (InT 9) (a.eval (.tmp 48)) w := hn.2.1
          have h49 : a.eval (.tmp 49) = .int .i64 ax := hn.2.2.1
          have h50 : a.eval (.tmp 50) = .int .u8 tn := hn.2.2.2.1
          clear hn
          refine wants_plain rfl ?_
          refine grown_call (f := 18) rfl Tryd.func18 (by kernel_rfl) (by kernel_rfl) ?_
          simp only [List.map_toArray, List.map_cons, List.map_nil, h46, h49, h50]
          refine (turned_in h48 (unhide HVV w hk) hi16 (unhide HAX) (unhide HTN)).mono ?_
          rintro e w' ⟨v', rfl, i', ps', qs', V, hb, _, K⟩
          exact ⟨_, rfl, K, i', ps', qs', V, hb⟩
        refine steps_cons (fun a w hk hn => ?_) ?_
        · have h44 : Sl w (a.eval (.tmp 44)) (tp) := hn.1
          have h45 : a.eval (.tmp 45) = .slice am mm cm := hn.2.1
          have h51 : (AnyS) (a.eval (.tmp 51)) w := hn.2.2.1
          clear hn
          refine wants_plain rfl ?_
          refine grown_call (f := 17) rfl Tryd.func17 (by kernel_rfl) (by kernel_rfl) ?_
          simp only [List.map_toArray, List.map_cons, List.map_nil, h45]
          refine (same_any' h51 h44 (unhide HTB) (unhide HMM w hk) (unhide HBm) (by omega) (unhide HGL w hk)).mono ?_
          rintro e w' ⟨rfl, K⟩
          exact ⟨_, rfl, K, rfl⟩
        refine steps_cons (fun a w hk hn => ?_) ?_
        · have h52 : a.eval (.tmp 52) = .bool true := hn.1
          clear hn
          refine wants_plain rfl ?_
          exact grown_move (.tmp 52) rfl h52
        refine steps_cons (fun a w hk hn => ?_) ?_
        · have h15 : a.eval (.tmp 15) = .pointer (some ⟨g1, 0, none⟩) := hn.1
          have h53 : a.eval (.tmp 53) = .bool true := hn.2.1
          clear hn
          refine wants_guard (d := 53) rfl rfl h53 ?_
          exact grown_move (.tmp 15) rfl h15
        refine steps_cons (fun a w hk hn => ?_) ?_
        · have h54 : a.eval (.tmp 54) = .pointer (some ⟨g1, 0, none⟩) := hn.1
          have h53 : a.eval (.tmp 53) = .bool true := hn.2.1
          clear hn
          refine wants_guard (d := 53) rfl rfl h53 ?_
          refine grown_call (f := 12) rfl Tryd.func12 (by kernel_rfl) (by kernel_rfl) ?_
          simp only [List.map_toArray, List.map_cons, List.map_nil, h54]
          refine (own_publicP _ tp w (unhide HOW w hk)).mono ?_
          rintro e w' ⟨ao, m, c, rfl, R, hw⟩
          subst w'
          exact ⟨_, rfl, Kp.refl _ _, R⟩
        refine steps_cons (fun a w hk hn => ?_) ?_
        · have h2 : a.eval (.tmp 2) = .slice am mm cm := hn.1
          have h53 : a.eval (.tmp 53) = .bool true := hn.2.1
          clear hn
          refine wants_guard (d := 53) rfl rfl h53 ?_
          exact grown_move (.tmp 2) rfl h2
        refine steps_cons (fun a w hk hn => ?_) ?_
        · have h13 : a.eval (.tmp 13) = .pointer (some ⟨g13, 0, none⟩) := hn.1
          have h53 : a.eval (.tmp 53) = .bool true := hn.2.1
          clear hn
          refine wants_guard (d := 53) rfl rfl h53 ?_
          exact grown_loadsig (.tmp 13) rfl g13 _ _ _ _ h13 (unhide HGR w hk) rfl
        refine steps_cons (fun a w hk hn => ?_) ?_
        · have h55 : Sl w (a.eval (.tmp 55)) (tp) := hn.1
          have h56 : a.eval (.tmp 56) = .slice am mm cm := hn.2.1
          have h57 : a.eval (.tmp 57) = .agg #[.int .i64 ri, .slice rpa rpn rpc, .slice rqa rqn rqc] := hn.2.2.1
          have h53 : a.eval (.tmp 53) = .bool true := hn.2.2.2.1
          clear hn
          refine wants_guard (d := 53) rfl rfl h53 ?_
          refine grown_call (f := 17) rfl Tryd.func17 (by kernel_rfl) (by kernel_rfl) ?_
          simp only [List.map_toArray, List.map_cons, List.map_nil, h56, h57]
          refine (lsame_any _ tp _ ms _ ri _ _ w h55 (unhide HTB) (unhide HMM w hk) (unhide HBm) (by omega) (unhide HRV w hk) (unhide HRB) (unhide HGL w hk)).mono ?_
          rintro e w' ⟨rfl, K⟩
          exact ⟨_, rfl, K, rfl⟩
        refine steps_cons (fun a w hk hn => ?_) ?_
        · have h53 : a.eval (.tmp 53) = .bool true := hn.1
          have h58 : a.eval (.tmp 58) = .bool true := hn.2.1
          clear hn
          refine wants_plain rfl ?_
          exact grown_pick _ _ _ true rfl h53 h58
        refine steps_cons (fun a w hk hn => ?_) ?_
        · have h59 : a.eval (.tmp 59) = .bool true := hn.1
          clear hn
          refine wants_plain rfl ?_
          exact grown_move (.tmp 59) rfl h59
        refine steps_cons (fun a w hk hn => ?_) ?_
        · have h60 : a.eval (.tmp 60) = .bool true := hn.1
          clear hn
          refine wants_guard (d := 60) rfl rfl h60 ?_
          refine grown_call (f := 20) rfl Tryd.func20 (by kernel_rfl) (by kernel_rfl) ?_
          simp only [List.map_toArray, List.map_nil]
          refine (sknown_any w (unhide HGL w hk)).mono ?_
          rintro e w' ⟨rfl, K⟩
          exact ⟨_, rfl, K, rfl⟩
        refine steps_cons (fun a w hk hn => ?_) ?_
        · have h60 : a.eval (.tmp 60) = .bool true := hn.1
          have h61 : a.eval (.tmp 61) = .bool true := hn.2.1
          clear hn
          refine wants_plain rfl ?_
          exact grown_pick _ _ _ true rfl h60 h61
        refine steps_cons (fun a w hk hn => ?_) ?_
        · have h62 : a.eval (.tmp 62) = .bool true := hn.1
          clear hn
          refine wants_plain rfl ?_
          exact grown_assign (.tmp 62) rfl h62
        exact trivial
      intro W1 hkW1
      rintro _ rfl
      intro v44 h44
      rintro _ rfl
      rintro _ rfl
      rintro _ rfl
      intro v48 h48
      rintro _ rfl
      rintro _ rfl
      intro v51 h51
      rintro _ rfl
      rintro _ rfl
      rintro _ rfl
      intro v55 h55
      rintro _ rfl
      rintro _ rfl
      rintro _ rfl
      rintro _ rfl
      rintro _ rfl
      rintro _ rfl
      rintro _ rfl
      rintro _ rfl
      refine fin_nil ?_
      simp only [Act.put, List.set_cons_zero, List.set_cons_succ, List.setIfInBounds_toArray]
      go_wp2_with fail
      go_ret
      exact ⟨rfl, ((unhide HK08).trans ((kp_drew w8).trans hkW1)).below (Nat.le_refl _) (by simp)⟩

set_option maxRecDepth 100000 in
theorem lifted (os : Os) (started : os.Started) (H : Type) (enc : TypeId × Value → H) :
    ReturnsInHanded {} Tryd.checked os 5 .any (fun w args => (Rows.signTurnedSpec.pre enc Tryd.prog Tryd.f5 [] false w args ∧ laidMetH Tryd.prog laid1 w) ∧ sizedMet enc Tryd.prog Tryd.f5 (OpenSpec.ofChange Rows.signTurnedSpec) false w args) (Rows.signTurnedSpec.post enc Tryd.prog Tryd.f5 false true false false) := by
  refine returnsInHanded_of_change_and (C := Tryd.checked) (X := fun w _ => laidMetH Tryd.prog laid1 w) (fun _ _ _ hh h => h.of_heap hh) own started (by kernel_rfl) Tryd.func5
    (ChangeSpec.witness_shaped (enc := enc) (C := Tryd.checked) (os := os) (X := fun w _ => laidMetH Tryd.prog laid1 w) false (World.doorLaid Tryd.prog 400 os) #[.int .i64 0, .int .i64 0, .slice none 0 0, .int .i64 0, .int .i64 0, .int .u8 0, .agg #[.int .i64 0, .slice none 0 0, .slice none 0 0]] 8 rfl (World.shaped_of_RefB (by kernel_rfl) (by kernel_rfl)) (by kernel_rfl) (by kernel_rfl) (by kernel_rfl) (door_met os _)) ?_
  intro W base args ds gs before hval0 hW hcnd hsz0 hL _
  have hG := gl_of_laid hL
  have hval : ∀ (j : Nat) t v, Tryd.f5.params[j]? = some t → args[j]? = some v → Value.okWide Tryd.prog W .any base t v := hval0
  have hW' := hW
  obtain ⟨p, q, hA0, hV, rfl, hfz, hnd⟩ := hW
  have hA : DataW.TrodAll enc Tryd.prog W 0 (fun _ => true) true Tryd.f5.params.toList args.toList ds p := hA0
  rw [Tryd.params5] at hA hval
  obtain ⟨v0, vs0, d0, ds0, p0, q0, hargs, rfl, rfl, h0, r0⟩ := trodAll_cons hA
  obtain ⟨v1, vs1, d1, ds1, p1, q1, rfl, rfl, rfl, h1, r1⟩ := trodAll_cons r0
  obtain ⟨v2, vs2, d2, ds2, p2, q2, rfl, rfl, rfl, h2, r2⟩ := trodAll_cons r1
  obtain ⟨v3, vs3, d3, ds3, p3, q3, rfl, rfl, rfl, h3, r3⟩ := trodAll_cons r2
  obtain ⟨v4, vs4, d4, ds4, p4, q4, rfl, rfl, rfl, h4, r4⟩ := trodAll_cons r3
  obtain ⟨v5, vs5, d5, ds5, p5, q5, rfl, rfl, rfl, h5, r5⟩ := trodAll_cons r4
  obtain ⟨v6, vs6, d6, ds6, p6, q6, rfl, rfl, rfl, h6, r6⟩ := trodAll_cons r5
  obtain ⟨rfl, rfl, rfl⟩ := trodAll_nil r6
  obtain rfl : args = #[v0, v1, v2, v3, v4, v5, v6] := by cases args; simp_all
  obtain ⟨rfl, rfl⟩ := trodVars_none hV
  obtain ⟨a0, rfl, rfl, rfl, w0⟩ := open_int Tryd.underlying3 (hval 0 3 v0 rfl rfl) h0
  obtain ⟨a1, rfl, rfl, rfl, w1⟩ := open_int Tryd.underlying3 (hval 1 3 v1 rfl rfl) h1
  obtain ⟨a2, len2, cap2, rfl⟩ := okWide_slice Tryd.underlying24 (hval 2 24 v2 rfl rfl)
  have k2 := h2
  have lt2 : ∀ x ∈ p2, x.block < W.heap.size := by obtain ⟨m, hm⟩ := k2; exact DataW.trod_lt m _ _ _ hm
  obtain ⟨l2, s2, b2⟩ : ∃ bs, Sl W (.slice a2 len2 cap2) bs ∧ Bs bs := by
    obtain ⟨fuel, hf⟩ := h2
    exact bytes_of_trod (by simpa [Value.cells] using hf)
  obtain ⟨a3, rfl, rfl, rfl, w3⟩ := open_int Tryd.underlying3 (hval 3 3 v3 rfl rfl) h3
  obtain ⟨a4, rfl, rfl, rfl, w4⟩ := open_int Tryd.underlying3 (hval 4 3 v4 rfl rfl) h4
  obtain ⟨a5, rfl, rfl, rfl, w5⟩ := open_int Tryd.underlying5 (hval 5 5 v5 rfl rfl) h5
  have k6 := h6
  have lt6 : ∀ x ∈ p6, x.block < W.heap.size := by obtain ⟨m, hm⟩ := k6; exact DataW.trod_lt m _ _ _ hm
  obtain ⟨a6, l6, m6, s6⟩ := raw_open (hval 6 33 v6 rfl rfl) h6
  clear hA0 hval0
  refine (walk a0 a1 (.slice a2 len2 cap2) l2 a3 a4 a5 v6 a6 l6 m6 W hG (bounds_i64 w0) (bounds_i64 w1) s2 b2 (bounds_i64 w3) (bounds_i64 w4) (bounds_u8 w5) s6).mono fun e W' ⟨he, bel⟩ => ?_
  subst he
  exact ⟨_, rfl, _, _, _, [], _, [], hW', trodAll_mk1 (shut_bool Tryd.underlying4 _), (trodAll_cons_mk (shut_int Tryd.underlying3 w0) (trodAll_cons_mk (shut_int Tryd.underlying3 w1) (trodAll_cons_mk (Below.trod laidOut (by kernel_rfl) (of_decide_eq_true (by kernel_rfl)) k2 bel lt2) (trodAll_cons_mk (shut_int Tryd.underlying3 w3) (trodAll_cons_mk (shut_int Tryd.underlying3 w4) (trodAll_cons_mk (shut_int Tryd.underlying5 w5) (trodAll_cons_mk (Below.trod laidOut (by kernel_rfl) (of_decide_eq_true (by kernel_rfl)) k6 bel lt6) trodAll_mk0))))))), rfl, bel.frame _, fun h => by cases h⟩

theorem over : Rows.signTurnedRow.holds Tryd.pinned (OpenSpec.ofChange Rows.signTurnedSpec) :=
  OpenClaim.holds_of_wide 5 Tryd.f5 rfl rfl rfl rfl rfl rfl rfl ⟨rfl, rfl, rfl, rfl, rfl⟩ rfl rfl rfl rfl rfl (by kernel_rfl) Tryd.func5 (by kernel_rfl)
    (of_decide_eq_true (by kernel_rfl)) (by unfold Func.isWrapper; first | (rw [if_pos (by decide +kernel)]; kernel_rfl) | (rw [if_neg (by decide +kernel)]; exact ⟨rfl, rfl⟩))
    (fun os started H enc _ => lifted os started H enc)
end Go.Proofs.YtdioaohejoflcaaDoor.signTurned

namespace Go.Proofs.YtdioaohejoflcaaDoor
/-- The given statement: the tied card. -/
theorem SignTurned_holds : Rows.SignTurnedCardSaid :=
  Claim7.holds_tied_plain_at .later [] [.data] true Rows.signTurnedCard.stood.harness false
    signTurned.over (fun _ h => by cases h) (by kernel_rfl) (fun _ h => by cases h) signTurned_row_tie rfl ⟨rfl, rfl⟩ (by kernel_rfl) rfl
    (fun f fn hf hfn => by
      obtain rfl : f = 5 := Option.some.inj ((show Tryd.prog.funcNamed "broadsheet/broadsheetlaw5.SignTurned" = some 5 by kernel_rfl).symm.trans hf) |>.symm
      obtain rfl : fn = Tryd.f5 := (Option.some.inj (Tryd.func5.symm.trans hfn)).symm
      exact ⟨by kernel_rfl, fun j t ht => by
        rw [Tryd.params5] at ht
        have hm : t ∈ ([3, 3, 24, 3, 3, 5, 33] : List TypeId) := by simpa using Array.mem_of_getElem? ht
        have hall : (([3, 3, 24, 3, 3, 5, 33] : List TypeId).all fun u => !Tryd.prog.wantsStandIn u) = true := by kernel_rfl
        exact (show Tryd.prog.wantsStandIn t = false by simpa using List.all_eq_true.1 hall t hm)⟩)
    (by kernel_rfl)
#print axioms SignTurned_holds
end Go.Proofs.YtdioaohejoflcaaDoor

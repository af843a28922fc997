/-
  The contracts of package journal: Put, Sync, Add, Count.
-/
import Derived.Test.YtillhpgdlmeajaaGreatDoorQC14
namespace Go.Proofs.YtillhpgdlmeajaaGreatDoor
open Go.ChangeShapes Go.WideShapes Go.ChangeAt Go.RowKit
open Go.Proofs
open Go.Deep
set_option linter.unusedVariables false
theorem Jr.c1 {w : World} {j p : Nat} {n : Int} (h : Jr w j p n) : w.cell? ⟨j, 1, none⟩ = some (.int .i64 n) := by rw [cell_of_row w j 1 _ _ _ h]; rfl
theorem Jr.c0 {w : World} {j p : Nat} {n : Int} (h : Jr w j p n) : w.cell? ⟨j, 0, none⟩ = some (.pointer (some ⟨p, 0, none⟩)) := by rw [cell_of_row w j 0 _ _ _ h]; rfl
theorem Jr.f {w : World} {j p : Nat} {n : Int} (h : Jr w j p n) (i : Nat) : w.frozen? ⟨j, i, none⟩ = false := by
  unfold World.frozen?
  unfold Jr at h
  simp [h]
theorem Jr.s1 {w : World} {j p : Nat} {n : Int} (h : Jr w j p n) (m : Int) : Jr (w.setCell ⟨j, 1, none⟩ (.int .i64 m)) j p m := by
  have := set_at h 1 (.int .i64 m)
  simpa [Jr] using this
theorem jsync_any {w0 w : World} {p j n : Nat} {v : Value} {d d' : Dk} (h : Jn w0 w p v d j n) (er : Bool) (he : d.sync = (er, d')) (en : Int) (hn : en = if er then 0 else 13) : Calls Tryz.prog 94 #[.pointer (some ⟨j, 0, none⟩)] w fun e w' => e = .returned (.int .i64 en) ∧ Jn w0 w' p v d' j n ∧ JSt p j w v w' v := by
  have hc := h.jr.c0
  have HH := hide h
  have HS := hide (nw_sync h.nw er he en hn)
  clear h he hn
  go_enter Tryz.func94, Tryz.ntmps94
  go_wp2_with fail
  refine HS.out.mono ?_
  rintro ee w1 ⟨rfl, N1, T1⟩
  have HJ := hide (HH.out.disk N1 T1)
  have HT := hide (T1.jst (j := j))
  clear N1 T1 HS hc
  go_wp2_with fail
  go_ret
  exact ⟨rfl, HJ.out, HT.out⟩
set_option maxRecDepth 100000 in
set_option maxHeartbeats 4000000 in
theorem jput_any {w0 w : World} {p j n : Nat} {v : Value} {d d' : Dk} {vb : Value} {b : List Int} (h : Jn w0 w p v d j n) (hS : Sl w vb b) (hB : Bs b) (hl : b.length ≤ 65535) (hn : n ≤ 1000000) (er : Bool) (he : d.app (recP b) = (er, d')) (en : Int) (hen : en = if er then 0 else 13) (n' : Nat) (hn' : n' = if er then n + 1 else n) :
    Calls Tryz.prog 93 #[.pointer (some ⟨j, 0, none⟩), vb] w fun e w' => e = .returned (.int .i64 en) ∧ ∃ v', Jn w0 w' p v' d' j n' ∧ JSt p j w v w' v' := by
  have HS : Hid (∀ w', Kp [] w.drew w' → Sl w' vb b) := fun w' k => hS.kept ((kp_drew w).trans k) (by simp)
  have HJ : Hid (∀ w', Kp [] w.drew w' → w'.heap[j]? = some (.cells #[.pointer (some ⟨p, 0, none⟩), .int .i64 n] 149 (0, 0))) := fun w' k => ((kp_drew w).trans k).heap h.jr (by simp)
  have HH := hide h
  have HB := hide hB
  have HL := hide hl
  have HE := hide he
  have HEN := hide hen
  have HN' := hide hn'
  obtain ⟨ab, cb, hvb, -⟩ := hS
  obtain ⟨nb, hnb⟩ : ∃ n, n = b.length := ⟨_, rfl⟩
  rw [← hnb] at hvb hl
  have hl' : ¬ (65535 : Int) < (nb : Int) := by omega
  subst hvb
  clear h hB he hen hn' hnb hl
  go_enter Tryz.func93, Tryz.ntmps93
  go_wp2_with fail
  refine region_grow_tail 6 Tryz.mixed [Is (.pointer (some ⟨j, 0, none⟩)), Is (.pointer (some ⟨j, 0, none⟩)), Is (.pointer (some ⟨j, 0, none⟩)), Is (.pointer (some ⟨p, 0, none⟩)), Is (.slice ab nb cb), SlT ((recP b))] [[(0, none)], [(9, some 0)], [(10, some 1)], [(11, some 2)], [(1, none)], [(13, some 4)]] (by kernel_rfl) ?_ ?_ ?_
  all_goals try simp only [List.take_succ_cons, List.take_zero, List.drop_succ_cons, List.drop_zero]
  · simp only [List.mem_cons, List.not_mem_nil, or_false]
    intro R hR
    rcases hR with rfl | rfl | rfl | rfl | rfl | rfl <;> first | exact stable_is _ | exact stable_sl _
  · refine steps_cons (fun a w hk hn => ?_) ?_
    · have h0 : a.eval (.tmp 0) = .pointer (some ⟨j, 0, none⟩) := hn.1
      clear hn
      refine wants_plain rfl ?_
      exact grown_move (.tmp 0) rfl h0
    refine steps_cons (fun a w hk hn => ?_) ?_
    · have h9 : a.eval (.tmp 9) = .pointer (some ⟨j, 0, none⟩) := hn.1
      clear hn
      refine wants_plain rfl ?_
      refine grown_run (v := .pointer (some ⟨j, 0, none⟩)) ?_ (Kp.refl _ _) rfl
      obtain ⟨ρ, hρ, hc, hf, hg⟩ := eval_is a
      rw [hρ] at h9 ⊢
      simp [go_sem, h9]
    refine steps_cons (fun a w hk hn => ?_) ?_
    · have h10 : a.eval (.tmp 10) = .pointer (some ⟨j, 0, none⟩) := hn.1
      clear hn
      refine wants_plain rfl ?_
      refine grown_run (v := .pointer (some ⟨j, 0, none⟩)) ?_ (Kp.refl _ _) rfl
      obtain ⟨ρ, hρ, hc, hf, hg⟩ := eval_is a
      rw [hρ] at h10 ⊢
      simp [go_sem, h10]
    refine steps_cons (fun a w hk hn => ?_) ?_
    · have h11 : a.eval (.tmp 11) = .pointer (some ⟨j, 0, none⟩) := hn.1
      clear hn
      refine wants_plain rfl ?_
      refine grown_run (v := .pointer (some ⟨p, 0, none⟩)) ?_ (Kp.refl _ _) rfl
      have hcell : w.cell? ⟨j, 0, none⟩ = some (.pointer (some ⟨p, 0, none⟩)) := by rw [cell_of_row w j 0 _ _ _ (HJ.out w hk)]; rfl
      obtain ⟨ρ, hρ, hc, hf, hg⟩ := eval_is a
      rw [hρ] at h11 ⊢
      simp [go_sem, h11, hcell]
    refine steps_cons (fun a w hk hn => ?_) ?_
    · have h1 : a.eval (.tmp 1) = .slice ab nb cb := hn.1
      clear hn
      refine wants_plain rfl ?_
      exact grown_move (.tmp 1) rfl h1
    refine steps_cons (fun a w hk hn => ?_) ?_
    · have h13 : a.eval (.tmp 13) = .slice ab nb cb := hn.1
      clear hn
      refine wants_plain rfl ?_
      refine grown_call (f := 131) rfl Tryz.func131 (by kernel_rfl) (by kernel_rfl) ?_
      simp only [List.map_toArray, List.map_cons, List.map_nil, h13]
      refine (jlaid_any (.slice ab nb cb) b w (HS.out w hk) HL.out).mono ?_
      rintro e w' ⟨ao, m, c, rfl, R, K⟩
      exact ⟨_, rfl, K, R.sl⟩
    exact trivial
  intro W1 hkW1
  rintro _ rfl
  rintro _ rfl
  rintro _ rfl
  rintro _ rfl
  rintro _ rfl
  intro v14 h14
  refine fin_nil ?_
  simp only [Act.put, List.set_cons_zero, List.set_cons_succ, List.setIfInBounds_toArray]
  have K0 : Kp [] w W1 := (kp_drew w).trans hkW1
  have HJ1 := hide (HH.out.on K0)
  have HA := hide (nw_append HJ1.out.nw h14 (recP_bs HB.out) er HE.out en HEN.out)
  have HK0 := hide K0
  clear h14 hkW1 K0 HS HJ
  go_wp2_with fail
  refine HA.out.mono ?_
  rintro ee w2 ⟨rfl, v2, N2, T2⟩
  have HJ2 := hide (HJ1.out.disk N2 T2)
  have HT2 : Hid (JSt p j w v w2 v2) := (JSt.mid v HK0.out).trans (T2.jst (j := j))
  clear N2 T2 HA
  cases er
  · have e0 : en = 13 := HEN.out
    have HN0 : Hid (n' = n) := HN'.out
    clear HEN HN'
    subst e0
    go_wp2_with fail
    go_ret
    refine ⟨rfl, v2, ?_, HT2.out⟩
    rw [HN0.out]; exact HJ2.out
  · have e0 : en = 0 := HEN.out
    have HN0 : Hid (n' = n + 1) := HN'.out
    clear HEN HN'
    subst e0
    have hc := HJ2.out.jr.c1
    have hf := HJ2.out.jr.f 1
    have hw : IntKind.i64.wrap ((n : Int) + 1) = (n : Int) + 1 := by simp [IntKind.wrap, IntKind.signed, IntKind.bits]; omega
    go_wp2_with fail
    go_ret
    have ks : Kp [j] w2 (w2.setCell ⟨j, 1, none⟩ (.int .i64 ((n : Int) + 1))) := kp_set w2 j 1 _
    refine ⟨rfl, v2, ⟨⟨HJ2.out.nw.dk.kept ks (fun i hi hm => ?_), HJ2.out.nw.new, HJ2.out.nw.kp.then ks (fun i hi => .inr ?_), HJ2.out.nw.arm⟩, ?_, HJ2.out.new⟩, HT2.out.trans ⟨ks.mono (by simp), fun _ h => .inl h⟩⟩
    · simp at hm; subst hm; exact HJ2.out.off hi
    · simp at hi; subst hi; exact HJ2.out.new
    · have := HJ2.out.jr.s1 ((n : Int) + 1)
      rw [HN0.out]; simpa using this
/-- what putAndSync does of two function values. -/
theorem pas_stop {w w1 : World} {vb : Value} {f g : Nat} {j : Nat} {en : Int} {R : World → Prop} (hen : en ≠ 0)
    (hP : Calls Tryz.prog 93 #[.pointer (some ⟨j, 0, none⟩), vb] w fun e w' => e = .returned (.int .i64 en) ∧ R w') :
    Calls Tryz.prog 92 #[vb, .func (.func 93) #[.pointer (some ⟨j, 0, none⟩)] #[], .func (.func 94) #[.pointer (some ⟨j, 0, none⟩)] #[]] w fun e w' => e = .returned (.int .i64 en) ∧ R w' := by
  have HP := hide hP
  clear hP
  go_enter Tryz.func92, Tryz.ntmps92
  go_wp2_with fail
  refine HP.out.mono ?_
  rintro ee w2 ⟨rfl, h2⟩
  have H2 := hide h2
  clear h2 HP
  go_wp2_with fail
  go_ret
  exact ⟨rfl, H2.out⟩
theorem pas_go {w : World} {vb : Value} {j : Nat} {en : Int} {R R' : World → Prop}
    (hP : Calls Tryz.prog 93 #[.pointer (some ⟨j, 0, none⟩), vb] w fun e w' => e = .returned (.int .i64 0) ∧ R w')
    (hS : ∀ w1, R w1 → Calls Tryz.prog 94 #[.pointer (some ⟨j, 0, none⟩)] w1 fun e w' => e = .returned (.int .i64 en) ∧ R' w') :
    Calls Tryz.prog 92 #[vb, .func (.func 93) #[.pointer (some ⟨j, 0, none⟩)] #[], .func (.func 94) #[.pointer (some ⟨j, 0, none⟩)] #[]] w fun e w' => e = .returned (.int .i64 en) ∧ R' w' := by
  have HP := hide hP
  have HS := hide hS
  clear hP hS
  go_enter Tryz.func92, Tryz.ntmps92
  go_wp2_with fail
  refine HP.out.mono ?_
  rintro ee w2 ⟨rfl, h2⟩
  have H2 := hide (HS.out w2 h2)
  clear h2 HP HS
  go_wp2_with fail
  refine H2.out.mono ?_
  rintro ee w3 ⟨rfl, h3⟩
  have H3 := hide h3
  clear h3 H2
  go_wp2_with fail
  go_ret
  exact ⟨rfl, H3.out⟩
theorem add_pas {w : World} {vb : Value} {j : Nat} {en : Int} {R : World → Prop}
    (hP : Calls Tryz.prog 92 #[vb, .func (.func 93) #[.pointer (some ⟨j, 0, none⟩)] #[], .func (.func 94) #[.pointer (some ⟨j, 0, none⟩)] #[]] w fun e w' => e = .returned (.int .i64 en) ∧ R w') :
    Calls Tryz.prog 44 #[.pointer (some ⟨j, 0, none⟩), vb] w fun e w' => e = .returned (.int .i64 en) ∧ R w' := by
  have HP := hide hP
  clear hP
  go_enter Tryz.func44, Tryz.ntmps44
  go_wp2_with fail
  refine HP.out.mono ?_
  rintro ee w2 ⟨rfl, h2⟩
  have H2 := hide h2
  clear h2 HP
  go_wp2_with fail
  go_ret
  exact ⟨rfl, H2.out⟩
/-- Add: Put, and then Sync: the first refusal. -/
def Dk.add (d : Dk) (b : List Int) : Bool × Dk := if (d.app b).1 then (d.app b).2.sync else (false, (d.app b).2)
theorem jadd_any {w0 w : World} {p j n : Nat} {v : Value} {d d' : Dk} {vb : Value} {b : List Int} (h : Jn w0 w p v d j n) (hS : Sl w vb b) (hB : Bs b) (hl : b.length ≤ 65535) (hn : n ≤ 1000000) (er : Bool) (he : d.add (recP b) = (er, d')) (en : Int) (hen : en = if er then 0 else 13) (n' : Nat) (hn' : n' = if (d.app (recP b)).1 then n + 1 else n) :
    Calls Tryz.prog 44 #[.pointer (some ⟨j, 0, none⟩), vb] w fun e w' => e = .returned (.int .i64 en) ∧ ∃ v', Jn w0 w' p v' d' j n' ∧ JSt p j w v w' v' := by
  obtain ⟨⟨e1, d1⟩, h1⟩ : ∃ x, d.app (recP b) = x := ⟨_, rfl⟩
  unfold Dk.add at he
  rw [h1] at he hn'
  cases e1
  · rw [if_neg (by simp)] at he
    injection he with e2 e3
    subst e2 e3
    exact add_pas (pas_stop (w1 := w) (f := 0) (g := 0) (by rw [hen]; decide) (jput_any h hS hB hl hn false h1 en hen n' hn'))
  · rw [if_pos rfl] at he
    refine add_pas (pas_go (jput_any h hS hB hl hn true h1 0 rfl n' hn') ?_)
    rintro w1 ⟨v1, J1, T1⟩
    refine (jsync_any J1 er he en hen).mono ?_
    rintro e w2 ⟨rfl, J2, T2⟩
    exact ⟨rfl, v1, J2, T1.trans T2⟩
end Go.Proofs.YtillhpgdlmeajaaGreatDoor

/-
  The reference's Record and Open; the law's lay.
-/
namespace Go.Proofs.YtillhpgdlmeajaaGreatDoor
open Go.RowKit
open Go.Proofs
/-- one more slice, wherever it lies but in the row itself. -/
theorem RowS.snocJ {w1 w2 : World} {base : Nat} {v v' : Value} {l : List (Value × List Int)} {x : Value × List Int} (h : RowS w1 base v l) (hx : Sl w1 x.1 x.2) (hB : Bs x.2) (ha : ∀ k, x.1.ownBlock = some k → v.ownBlock = some k → x.2 = [])
    (r : RowV w2 base v' (l.map (·.1) ++ [x.1])) (s : RStep w1 v w2 v') : RowS w2 base v' (l ++ [x]) := by
  have one : ∀ y : Value × List Int, Sl w1 y.1 y.2 → (∀ k, y.1.ownBlock = some k → v.ownBlock = some k → y.2 = []) → Sl w2 y.1 y.2 ∧ ∀ k, y.1.ownBlock = some k → v'.ownBlock = some k → y.2 = [] := by
    intro y hy hay
    refine ⟨hy.apart s.1 (fun i hi hm => hay i hi (by simpa [Option.mem_toList] using hm)), fun k hk hv => ?_⟩
    rcases s.2 k hv with h1 | h1
    · exact hay k hk h1
    · by_cases hb : y.2 = []
      · exact hb
      · obtain ⟨ao', c', e, h1', _, h3, h4⟩ := hy
        cases ao' with
        | none => exact List.eq_nil_of_length_eq_zero (by have := h3 rfl; omega)
        | some a =>
          have hpos : 0 < y.2.length := List.length_pos_iff.2 hb
          have hc := h4 a rfl 0 (.int .u8 y.2[0]) (by simp [List.getElem?_eq_getElem hpos])
          have hlt := World.block_lt_of_cell? _ _ hc
          rw [add_block] at hlt
          rw [e] at hk
          have : a.block = k := by simpa [Value.ownBlock] using hk
          omega
  refine ⟨by rw [List.map_append]; exact r, fun y hy => ?_⟩
  rcases List.mem_append.1 hy with hy | hy
  · obtain ⟨h1, h2, h3⟩ := h.2 y hy
    exact ⟨(one y h1 h3).1, h2, (one y h1 h3).2⟩
  · obtain rfl : y = x := by simpa using hy
    exact ⟨(one y hx ha).1, hB, (one y hx ha).2⟩
end Go.Proofs.YtillhpgdlmeajaaGreatDoor

/-
  The contracts of the program's Secret, Shown, and what they call.
-/
namespace Go.Proofs.YtillhpgdlmeajaaGreatDoor
open Go.RowKit
set_option maxRecDepth 100000 in
set_option maxHeartbeats 1000000 in
theorem secret_any (vb : Value) (bs : List Int) (key bit side : Int) (r : List Int) (hr : r = secP bs key bit side) (w : World) (hS : Sl w vb bs) (hB : Bs bs) (hl : bs.length ≤ 1000) (hG : Gl w) :
    Calls Tryz.prog 183 #[vb, .int .i64 key, .int .i64 bit, .int .i64 side] w fun e w' => ∃ ao m c, e = .returned (.slice ao m c) ∧ Row w' w.heap.size (.slice ao m c) r ∧ Kp [] w w' := by
  obtain ⟨ob, hob⟩ : ∃ o : Obj, o = (.cells #[.int .u8 (key / 16777216 % 256), .int .u8 (key / 65536 % 256), .int .u8 (key / 256 % 256), .int .u8 (key % 256), .int .u8 (bit % 256), .int .u8 (side % 256)] 5) := ⟨_, rfl⟩
  have hP : Sl (w.alloc ob) (.slice (some ⟨w.heap.size, 0, none⟩) 6 6) (be4 key ++ [bit % 256, side % 256]) := by
    rw [hob]; exact Sl.block (cs := be4 key ++ [bit % 256, side % 256]) (t := 5) (fr := (0, 0)) (heap_alloc_new w _) (by simp [be4, maxLen])
  have hPB : Bs (be4 key ++ [bit % 256, side % 256]) := by
    intro b hb
    rcases List.mem_append.1 hb with h | h
    · exact be4_bs key b h
    · simp only [List.mem_cons, List.not_mem_nil, or_false] at h
      rcases h with rfl | rfl <;> omega
  have HL0 := lists2 (hS.kept ((Kp.refl [] w).alloc ob) (by simp)) hB hP hPB
  rw [show (w.alloc ob).heap.size = w.heap.size + 1 by simp] at HL0
  have HL := hide HL0
  clear HL0
  have HG := hide hG
  have HO := hide hob
  have HK := hide (((Kp.refl [] w).alloc ob).alloc (.cells #[vb, .slice (some ⟨w.heap.size, 0, none⟩) 6 6] 22))
  have hm : Hid (∀ x ∈ [(vb, bs), (Value.slice (some ⟨w.heap.size, 0, none⟩) 6 6, be4 key ++ [bit % 256, side % 256])], x.2.length ≤ 1000000) := by
    intro x hx
    rcases (by simpa using hx : x = (vb, bs) ∨ x = (Value.slice (some ⟨w.heap.size, 0, none⟩) 6 6, be4 key ++ [bit % 256, side % 256])) with rfl | rfl
    · simp; omega
    · simp [be4]
  have HR : Hid (r = sha (10 :: cat [(vb, bs), (Value.slice (some ⟨w.heap.size, 0, none⟩) 6 6, be4 key ++ [bit % 256, side % 256])])) := by rw [hr, cat2]; rfl
  obtain ⟨ab, cb, hvb, _⟩ := hS
  obtain ⟨nb, hnb⟩ : ∃ n, n = bs.length := ⟨_, rfl⟩
  rw [← hnb] at hvb
  subst hvb
  clear hG hr hnb hB hob hP hPB
  go_enter Tryz.func183, Tryz.ntmps183
  go_wp2_with fail
  rw [← unhide HO]
  refine (tagged_any 10 _ _ r (unhide HR) _ (unhide HL) (by omega) (by omega) (by simp) (unhide hm) ((unhide HG).kept (unhide HK) (by simp))).mono ?_
  rintro ee w2 ⟨ao2, m2, c2, rfl, R2, K2⟩
  have HR2 := hide (row_new R2 (unhide HK))
  have HK2 := hide ((unhide HK).trans K2)
  clear HL HK hm HR HO R2 K2
  go_wp2_with fail
  go_ret
  exact ⟨ao2, m2, c2, rfl, unhide HR2, unhide HK2⟩
set_option maxHeartbeats 1000000 in
theorem shownOf_any (vb : Value) (bs : List Int) (r : List Int) (hr : r = sha (11 :: bs)) (w : World) (hS : Sl w vb bs) (hB : Bs bs) (hl : bs.length ≤ 1000) (hG : Gl w) :
    Calls Tryz.prog 185 #[vb] w fun e w' => ∃ ao m c, e = .returned (.slice ao m c) ∧ Row w' w.heap.size (.slice ao m c) r ∧ Kp [] w w' := by
  have HL := hide (lists1 hS hB)
  have HG := hide hG
  have HR : Hid (r = sha (11 :: cat [(vb, bs)])) := hide (by rw [hr, cat1])
  have HK := hide ((Kp.refl [] w).alloc (.cells #[vb] 22))
  obtain ⟨ab, cb, hvb, _⟩ := hS
  obtain ⟨nb, hnb⟩ : ∃ n, n = bs.length := ⟨_, rfl⟩
  rw [← hnb] at hvb
  subst hvb
  clear hG hr hnb hB
  go_enter Tryz.func185, Tryz.ntmps185
  go_wp2_with fail
  refine (tagged_any 11 _ _ r (unhide HR) _ (unhide HL) (by omega) (by omega) (by simp) (by simp; omega) ((unhide HG).kept (unhide HK) (by simp))).mono ?_
  rintro ee w2 ⟨ao2, m2, c2, rfl, R2, K2⟩
  have HR2 := hide (row_new R2 (unhide HK))
  have HK2 := hide ((unhide HK).trans K2)
  clear HL HK HR R2 K2
  go_wp2_with fail
  go_ret
  exact ⟨ao2, m2, c2, rfl, unhide HR2, unhide HK2⟩
set_option maxHeartbeats 1000000 in
theorem publicOf_any (vl : Value) (l : List (Value × List Int)) (r : List Int) (hr : r = sha (12 :: cat l)) (w : World) (hL : Lists w vl l) (hn : l.length ≤ 100000) (hm : ∀ x ∈ l, x.2.length ≤ 1000000) (hG : Gl w) :
    Calls Tryz.prog 168 #[vl] w fun e w' => ∃ ao m c, e = .returned (.slice ao m c) ∧ Row w' w.heap.size (.slice ao m c) r ∧ Kp [] w w' := by
  have HC := hide (tagged_any 12 vl l r hr w hL (by omega) (by omega) hn hm hG)
  obtain ⟨al, cl, rfl, _⟩ := hL
  clear hr hm hG
  go_enter Tryz.func168, Tryz.ntmps168
  go_wp2_with fail
  refine (unhide HC).mono ?_
  rintro ee w2 ⟨ao2, m2, c2, rfl, R2, K2⟩
  clear HC
  go_wp2_with fail
  go_ret
  exact ⟨ao2, m2, c2, rfl, R2, K2⟩
set_option maxHeartbeats 1000000 in
theorem shown_any (vb : Value) (bs : List Int) (key bit side : Int) (r : List Int) (hr : r = shnP bs key bit side) (w : World) (hS : Sl w vb bs) (hB : Bs bs) (hl : bs.length ≤ 1000) (hG : Gl w) :
    Calls Tryz.prog 179 #[vb, .int .i64 key, .int .i64 bit, .int .i64 side] w fun e w' => ∃ ao m c, e = .returned (.slice ao m c) ∧ Row w' w.heap.size (.slice ao m c) r ∧ Kp [] w w' := by
  obtain ⟨q, hq⟩ : ∃ q, q = secP bs key bit side := ⟨_, rfl⟩
  have HC := hide (secret_any vb bs key bit side q hq w hS hB hl hG)
  have HQL : Hid (q.length = 32) := by rw [hq]; exact secP_len _ _ _ _
  have HQB : Hid (Bs q) := by rw [hq]; exact sha_bs _
  have HR : Hid (r = sha (11 :: q)) := by rw [hr, hq]; rfl
  have HG := hide hG
  obtain ⟨ab, cb, hvb, _⟩ := hS
  obtain ⟨nb, hnb⟩ : ∃ n, n = bs.length := ⟨_, rfl⟩
  rw [← hnb] at hvb
  subst hvb
  clear hG hr hnb hB hq
  go_enter Tryz.func179, Tryz.ntmps179
  go_wp2_with fail
  refine (unhide HC).mono ?_
  rintro ee w2 ⟨ao2, m2, c2, rfl, R2, K2⟩
  have HR2 := hide R2
  have HK2 := hide K2
  clear HC R2 K2
  go_wp2_with fail
  refine (shownOf_any _ q r (unhide HR) w2 (unhide HR2).sl (unhide HQB) (by have := unhide HQL; omega) ((unhide HG).kept (unhide HK2) (by simp))).mono ?_
  rintro ee w3 ⟨ao3, m3, c3, rfl, R3, K3⟩
  have HR3 := hide (row_new R3 (unhide HK2))
  have HK3 := hide ((unhide HK2).trans K3)
  clear HR2 HK2 R3 K3
  go_wp2_with fail
  go_ret
  exact ⟨ao3, m3, c3, rfl, unhide HR3, unhide HK3⟩
end Go.Proofs.YtillhpgdlmeajaaGreatDoor

/-
  A place of a row of the call's own: read, written.
-/
namespace Go.Proofs.YtillhpgdlmeajaaGreatDoor
open Go.RowKit
theorem Bs.set {bs : List Int} (h : Bs bs) (i : Nat) (x : Int) (h0 : 0 ≤ x) (h1 : x ≤ 255) : Bs (bs.set i x) := fun b hb => by
  rcases List.mem_or_eq_of_mem_set hb with h2 | rfl
  · exact h b h2
  · exact ⟨h0, h1⟩
theorem Row.spot {w : World} {base n c : Nat} {ao : Option Addr} {bs : List Int} (h : Row w base (.slice ao n c) bs) (h0 : 0 < n) :
    ∃ g, ao = some ⟨g, 0, none⟩ ∧ base ≤ g ∧ g < w.heap.size ∧ (∀ k (hk : k < bs.length), w.cell? ⟨g, k, none⟩ = some (.int .u8 bs[k])) ∧ (∀ k, w.frozen? ⟨g, k, none⟩ = false) ∧ ∀ k x, Row (w.setCell ⟨g, k, none⟩ (.int .u8 x)) base (.slice ao n c) (bs.set k x) := by
  have hn := h.len
  subst hn
  rcases h.2 with ⟨h', h1⟩ | ⟨g, cap, cur, h', hb, hg, _⟩
  · injection h'; omega
  · have e : ao = some ⟨g, 0, none⟩ := by injection h'
    subst e
    have h1 : w.ownsRow base 5 1 (.slice (some ⟨g, 0, none⟩) bs.length c) bs.length (bs.map (Value.int .u8)) := h
    refine ⟨g, rfl, hb, (Array.getElem?_eq_some_iff.1 hg).1, fun k hk => ?_, fun k => h1.frozenAt k, fun k x => ?_⟩
    · rw [h1.cellAt k (by omega)]; simp [List.getElem?_eq_getElem hk]
    · have := (h1.stored k (.int .u8 x)).1
      unfold Row
      rw [List.length_set, List.map_set]
      exact this
end Go.Proofs.YtillhpgdlmeajaaGreatDoor

/-
  Manifests (api.Manifest) as values and in memory: loaded, stored, handed back.
-/
namespace Go.Proofs.YtillhpgdlmeajaaGreatDoor
open Go.RowKit
open Go.Proofs
/-- v is the manifest m. -/
def MV (w : World) (v : Value) (m : Mf) : Prop :=
  ∃ af nf cf an nn cn, v = .agg #[.string m.s, .int .u32 m.v, .slice af nf cf, .slice an nn cn] ∧ Sl w (.slice af nf cf) m.f ∧ Sl w (.slice an nn cn) m.n ∧ m.ok
theorem MV.kept {w w' : World} {v : Value} {m : Mf} (h : MV w v m) (k : Kp [] w w') : MV w' v m := by
  obtain ⟨af, nf, cf, an, nn, cn, e, h1, h2, h3⟩ := h
  exact ⟨af, nf, cf, an, nn, cn, e, h1.kept k (by simp), h2.kept k (by simp), h3⟩
theorem MV.ok {w : World} {v : Value} {m : Mf} (h : MV w v m) : m.ok := by
  obtain ⟨_, _, _, _, _, _, _, _, _, h3⟩ := h
  exact h3
section
variable {w : World} {g : Nat} {x y z u : Value} {fr : Nat × Nat}
end
section
variable {o : Oper} {a : Act} {w : World} {R : Tell} {g : Nat} {x y z u : Value} {fr : Nat × Nat}
end
/-- bytes do not lie in a block that holds none. -/
theorem sl_block {w : World} {v : Value} {bs : List Int} {g : Nat} {cs : Array Value} {t : TypeId} {fr : Nat × Nat} (h : Sl w v bs) (hg : w.heap[g]? = some (.cells cs t fr)) (hn : ∀ x ∈ cs.toList, ∀ y, x ≠ .int .u8 y) (hv : v.ownBlock = some g) : bs = [] := by
  by_cases hb0 : bs = []
  · exact hb0
  · obtain ⟨ao', c', e, h1, _, h3, h4⟩ := h
    cases ao' with
    | none => exact List.eq_nil_of_length_eq_zero (by have := h3 rfl; omega)
    | some ad =>
      have hpos : 0 < bs.length := List.length_pos_iff.2 hb0
      have hc := h4 ad rfl 0 (.int .u8 bs[0]) (by simp [List.getElem?_eq_getElem hpos])
      rw [e] at hv
      have hbk : ad.block = g := by simpa [Value.ownBlock] using hv
      rw [Addr.add_zero'] at hc
      have hsp := World.cell?_spot hc
      obtain ⟨b, off, sp⟩ := ad
      simp only at hsp hbk
      subst hsp
      subst hbk
      rw [cell_of_row w b off _ _ _ hg] at hc
      exact absurd rfl (hn _ (by simpa using Array.mem_of_getElem? hc) bs[0])
theorem sl_empty {w w' : World} {ao : Option Addr} {n c : Nat} (h : Sl w (.slice ao n c) []) : Sl w' (.slice ao n c) [] := by
  obtain ⟨ao', c', e, h1, h2, h3, _⟩ := h
  exact ⟨ao', c', e, h1, h2, h3, fun a _ j u hu => by simp at hu⟩
/-- blocks that hold no bytes. -/
def NoBy (w : World) (S : List Nat) : Prop := ∀ g ∈ S, ∃ cs t fr, w.heap[g]? = some (.cells cs t fr) ∧ ∀ x ∈ cs.toList, ∀ y, x ≠ .int .u8 y
theorem Sl.offBy {w w' : World} {ao : Option Addr} {n c : Nat} {bs : List Int} {S : List Nat} (h : Sl w (.slice ao n c) bs) (hS : NoBy w S) (k : Kp S w w') : Sl w' (.slice ao n c) bs := by
  by_cases hb : bs = []
  · subst hb; exact sl_empty h
  · refine h.kept k (fun i hi hm => hb ?_)
    obtain ⟨cs, t, fr, hg, hn⟩ := hS i hm
    exact sl_block h hg hn hi
theorem MV.offBy {w w' : World} {v : Value} {m : Mf} {S : List Nat} (h : MV w v m) (hS : NoBy w S) (k : Kp S w w') : MV w' v m := by
  obtain ⟨af, nf, cf, an, nn, cn, e, h1, h2, h3⟩ := h
  exact ⟨af, nf, cf, an, nn, cn, e, h1.offBy hS k, h2.offBy hS k, h3⟩
end Go.Proofs.YtillhpgdlmeajaaGreatDoor

/-
  The contracts of package wire's Byte and Bytes of a writer and of a reader, and End, over this seat's program.
-/
namespace Go.Proofs.YtillhpgdlmeajaaGreatDoor
open Go.RowKit
open Go.Proofs
theorem be_two (n : Int) : be n 2 0 = [n / 256 % 256, n % 256] := by simp [be, byteAt, List.range_succ]
theorem bytes_ok (p : Nat) (v : Value) (bs : List Int) (vb : Value) (cs : List Int) (w : World) (hw : Wr w p v bs) (hs : Sl w vb cs) (hk : ∀ w1, Kp (p :: v.ownBlock.toList) w w1 → Sl w1 vb cs) (hb : bs.length + cs.length ≤ 100000000000000) (hl : cs.length ≤ 65535) :
    Calls Tryz.prog 134 #[.pointer (some ⟨p, 0, none⟩), vb] w fun e w' => e = .returned (.bool true) ∧ ∃ v', Wr w' p v' (bs ++ be cs.length 2 0 ++ cs) ∧ Step p w v w' v' := by
  obtain ⟨ao, c, rfl, h1, h2, h3, h4⟩ := hs
  have hw32 : IntKind.u32.wrap (cs.length : Int) = cs.length := by simp [IntKind.wrap, IntKind.signed, IntKind.bits]; omega
  have hle : (cs.length : Int) ≤ 65535 := by omega
  clear h4 h3 h2
  go_enter Tryz.func134, Tryz.ntmps134
  go_wp2_with (go_at_call 158; refine (number_any p cs.length 2 v bs _ hw (by omega) (by omega)).mono ?_; rintro e w1 ⟨rfl, v1, k1, k2⟩)
  go_wp2_with (go_at_call 157; refine (raw_any p v1 _ _ cs _ k1 (hk _ k2.1) (by rw [List.length_append, be_length]; omega)).mono ?_; rintro e w2 ⟨rfl, v2, k3, k4⟩)
  go_ret
  exact ⟨rfl, v2, k3, k2.trans k4⟩
theorem val_two (cs : List Int) (h : Bs cs) (hl : cs.length ≤ 2) : 0 ≤ val cs ∧ val cs ≤ 65535 := by
  have h1 := val_bd cs h
  have : cs.length = 0 ∨ cs.length = 1 ∨ cs.length = 2 := by omega
  rcases this with e | e | e <;> rw [e] at h1 <;> omega
theorem rbytes_any (q : Nat) (v : Value) (bad : Bool) (bs : List Int) (most : Int) (w : World) (hR : Rd w q v bad bs) (hB : Bs bs) (hb : bs.length ≤ 140737488355328) :
    Calls Tryz.prog 129 #[.pointer (some ⟨q, 0, none⟩), .int .i64 most] w fun e w' => ∃ ao c, e = .returned (.slice ao (tkb bad bs most).1.length c) ∧ Own w w' (.slice ao (tkb bad bs most).1.length c) (tkb bad bs most).1 ∧ Left w q v (tkb bad bs most).2 w' := by
  have hv := val_two (tk bad bs 2).1 (tk_bs1 hB) (@tk_len1 bad bs 2)
  have hl2 : (tk bad bs 2).2.2.length ≤ 140737488355328 := by have := @tk_len bad bs 2; omega
  obtain ⟨t, ht⟩ : ∃ t, t = tk bad bs 2 := ⟨_, rfl⟩
  have hw64 : IntKind.i64.wrap (val t.1) = val t.1 := by rw [ht]; simp [IntKind.wrap, IntKind.signed, IntKind.bits]; omega
  rw [← ht] at hv hl2
  have HT : Hid (t = tk bad bs 2) := ht
  have h2 : (tkb bad bs most) = if max most 0 < val t.1 then ([], true, []) else tk t.2.1 t.2.2 (val t.1) := by unfold tkb; rw [ht]
  clear ht
  obtain ⟨x, hx⟩ : ∃ x, x = val t.1 := ⟨_, rfl⟩
  rw [← hx] at hv hw64 h2
  have HX : Hid (x = val t.1) := hx
  clear hx
  obtain ⟨hv0, hv1⟩ := hv
  by_cases hm : max most 0 < x
  · rw [if_pos hm] at h2
    rw [h2]
    have hm2 : ¬ x ≤ max most 0 := by omega
    clear h2
    go_enter Tryz.func129, Tryz.ntmps129
    go_wp2_with fail
    refine (rnumber_any q v bad bs 2 _ hR (by omega) (by omega) hB).mono ?_
    rintro e w1 ⟨rfl, hL⟩
    rw [show ((2 : Nat) : Int) = 2 from rfl, ← HT.out] at hL
    rw [show ((2 : Nat) : Int) = 2 from rfl, ← HT.out, ← HX.out]
    go_wp2_with fail
    all_goals
      obtain ⟨⟨v1, r1, o1⟩, k1⟩ := hL
      refine (spoil_any q v1 _ _ _ r1).mono ?_
      rintro e w2 ⟨rfl, r2, k2⟩
      go_wp2_with fail
      refine (raw_ok q _ true [] x _ r2 (by simp)).mono ?_
      rw [tk_no true [] x (.inr (by simp; omega))]
      rintro e w3 ⟨ao, c, rfl, hO, hL3⟩
      go_wp2_with fail
      go_ret
      exact ⟨ao, c, rfl, ⟨hO.1, fun k hk => Nat.le_trans (k1.trans k2).size (hO.2 k hk)⟩, ⟨⟨_, hL3.1.choose_spec.1, fun k hk => (by have := hL3.1.choose_spec.2 k hk; cases this)⟩, (k1.trans k2).trans hL3.2⟩⟩
  · rw [if_neg hm] at h2
    rw [h2]
    clear h2
    go_enter Tryz.func129, Tryz.ntmps129
    go_wp2_with fail
    refine (rnumber_any q v bad bs 2 _ hR (by omega) (by omega) hB).mono ?_
    rintro e w1 ⟨rfl, hL⟩
    rw [show ((2 : Nat) : Int) = 2 from rfl, ← HT.out] at hL
    rw [show ((2 : Nat) : Int) = 2 from rfl, ← HT.out, ← HX.out]
    go_wp2_with fail
    all_goals
      obtain ⟨⟨v1, r1, o1⟩, k1⟩ := hL
      refine (raw_ok q v1 _ _ x _ r1 hl2).mono ?_
      rintro e w3 ⟨ao, c, rfl, hO, hL3⟩
      go_wp2_with fail
      go_ret
      exact ⟨ao, c, rfl, ⟨hO.1, fun k hk => Nat.le_trans k1.size (hO.2 k hk)⟩, ⟨⟨_, hL3.1.choose_spec.1, fun k hk => o1 k (hL3.1.choose_spec.2 k hk)⟩, k1.trans hL3.2⟩⟩
theorem end_any (q : Nat) (v : Value) (bad : Bool) (bs : List Int) (w : World) (h : Rd w q v bad bs) :
    Calls Tryz.prog 130 #[.pointer (some ⟨q, 0, none⟩)] w fun e w' => e = .returned (.bool (!bad && bs.isEmpty)) ∧ w' = w := by
  obtain ⟨ao, c, rfl, h1, h2, h3, h4⟩ := h.2.1
  have hc0 := (cell_of_two h.1).1
  have hc1 := (cell_of_two h.1).2
  clear h4 h3 h
  cases bad with
  | true =>
    go_enter Tryz.func130, Tryz.ntmps130
    go_wp2
    go_ret
    exact ⟨rfl, rfl⟩
  | false =>
    cases bs with
    | nil =>
      go_enter Tryz.func130, Tryz.ntmps130
      go_wp2
      go_ret
      exact ⟨rfl, rfl⟩
    | cons b bs =>
      have hl : (((bs.length : Int) + 1) == 0) = false := by rw [beq_eq_false_iff_ne]; omega
      go_enter Tryz.func130, Tryz.ntmps130
      go_wp2
      go_ret
      exact ⟨rfl, rfl⟩
end Go.Proofs.YtillhpgdlmeajaaGreatDoor

/-
  Rows of numbers that a call owns; items of a row of texts.
-/
namespace Go.Proofs.YtillhpgdlmeajaaGreatDoor
open Go.RowKit
open Go.Proofs
set_option linter.unusedVariables false
theorem beU_2 (n : Int) : be n 2 0 = be2 n := be_two n
theorem be_bqU (n : Int) : be n 4 0 = bq n := by simp [be, byteAt, List.range_succ, bq]
theorem Tryz.infoInt : (Tryz.prog.info? 3).map (fun i => (i.zero, i.size, i.bytes)) = some (some (.int .i64 0), 1, 8) := by kernel_rfl
/-- the row v of ints, of the call's own from base on. -/
def RowI (w : World) (base : Nat) (v : Value) (l : List Int) : Prop := w.ownsRow base 3 1 v l.length (l.map (Value.int .i64))
theorem RowI.kept {w w' : World} {base : Nat} {v : Value} {l : List Int} {S : List Nat} (h : RowI w base v l) (k : Kp S w w') (hv : ∀ i, v.ownBlock = some i → i ∉ S) : RowI w' base v l := k.owns h hv
theorem RowI.shape {w : World} {base : Nat} {v : Value} {l : List Int} (h : RowI w base v l) : ∃ ao c, v = .slice ao l.length c := owns_shape h
theorem RowI.lt {w : World} {base k : Nat} {v : Value} {l : List Int} (h : RowI w base v l) (hk : v.ownBlock = some k) : base ≤ k ∧ k < w.heap.size := by
  rcases h.2 with ⟨rfl, _⟩ | ⟨g, cap, cur, rfl, hb, hg, _⟩
  · cases hk
  · cases hk; exact ⟨hb, (Array.getElem?_eq_some_iff.1 hg).1⟩
theorem RowI.rebase {w : World} {base base' : Nat} {v : Value} {l : List Int} (h : RowI w base v l) (hn : ∀ k, v.ownBlock = some k → base' ≤ k) : RowI w base' v l := owns_rebase h hn
theorem wpList_append_rowi {w : World} {ops : Array Oper} {rest : List Oper} {o : Oper} {a : Act} {Q : Exit → Act → World → Prop} (hgd : o.guard = none) (s x : Operand)
    (ho : o.op = .call { callee := .builtin .append, args := #[s, x], argTypes := #[35, 35] }) (base : Nat) (v : Value) (xs : List Int) (hs : a.eval s = v) (hrow : RowI w base v xs)
    (n : Int) (hx : a.eval x = .slice (some ⟨w.heap.size, 0, none⟩) 1 1) (hb : xs.length ≤ 1000000) (hbase : base ≤ w.heap.size)
    (h : ∀ ao m c w', RowI w' base (.slice ao m c) (xs ++ [n]) → RStep w v w' (.slice ao m c) → wpList Tryz.prog ops Q rest (a.put o.dst (.slice ao m c)) w') : wpList Tryz.prog ops Q (o :: rest) a (w.alloc (.cells #[.int .i64 n] 3)) := by
  obtain ⟨i0, hi0, hz0, hz1, hz2⟩ := info_parts Tryz.infoInt
  obtain ⟨av, cv, rfl⟩ := hrow.shape
  have k0 : Kp [] w (w.alloc (.cells #[.int .i64 n] 3)) := (Kp.refl [] w).alloc _
  refine wpList_append_own_at _ hgd s x 35 ho base 3 i0 (.int .i64 0) 1 8 Tryz.underlying35 hi0 hz0 hz1 hz2 rfl (by decide) _ xs.length (xs.map (Value.int .i64)) hs (hrow.kept k0 (by simp)) ⟨w.heap.size, 0, none⟩ 1 1 [.int .i64 n] hx rfl (fun j u hu => World.news_of_block (heap_alloc_new w _) j u (by simpa using hu)) (by simp [Value.oneCell']) (by unfold maxLen; omega) (by omega) (Nat.le_trans hbase k0.size) ?_
  intro v' w1 hown hgrow _ hat
  have R : RowI w1 base v' (xs ++ [n]) := by unfold RowI; rw [List.length_append, List.map_append]; exact hown
  obtain ⟨ao', c', hv⟩ := R.shape
  subst hv
  refine h ao' _ c' w1 R ⟨(k0.mono (by simp)).trans ((Kp.refl _ _).grown hgrow (fun k hk => .inl (by simp [hk]))), fun k hk => ?_⟩
  rcases hat with e | e
  · exact .inl (e ▸ hk)
  · rw [e] at hk; cases hk; exact .inr (by simp)
/-- an item of a row of texts. -/
theorem RowU.at {w : World} {base m c : Nat} {ao : Option Addr} {l : List (List Int)} (h : RowU w base (.slice ao m c) l) (i : Nat) (hi : i < l.length) : ∃ g, ao = some ⟨g, 0, none⟩ ∧ w.cell? ⟨g, i, none⟩ = some (.string (strOfNums l[i])) := by
  rcases h.2 with ⟨e, h0⟩ | ⟨g, cap, cur, e, _⟩
  · omega
  · injection e with e1 e2 e3
    subst e1
    have := h.cells (g := g) rfl i (sv l[i]) (by simp [List.getElem?_eq_getElem hi])
    exact ⟨g, rfl, by simpa [Addr.add_lit, sv] using this⟩
set_option maxRecDepth 100000 in
set_option maxHeartbeats 4000000 in
theorem ulaid_any (v : Value) (l : List (List Int)) (w : World) (hR : RowU w 0 v l) (hs : ∀ x ∈ l, Bs x ∧ x.length ≤ 65535) (hn : l.length ≤ 1000) :
    Calls Tryz.prog 98 #[v] w fun e w' => ∃ ao m c, e = .returned (.tuple #[.slice ao m c, .bool true]) ∧ Row w' w.heap.size (.slice ao m c) (batU l) ∧ Kp [] w w' := by
  obtain ⟨al, cl, rfl⟩ := hR.shape
  have HR := hide hR
  have HS := hide hs
  obtain ⟨n, hnl⟩ : ∃ n, n = l.length := ⟨_, rfl⟩
  have hn32 : IntKind.u32.wrap (n : Int) = n := by simp [IntKind.wrap, IntKind.signed, IntKind.bits]; omega
  have HB0 : Hid ((l.take 0).map itmU = []) := by simp [Hid]
  rw [← hnl] at HR hn ⊢
  have HN := hide hnl
  clear hR hs hnl
  go_enter Tryz.func98, Tryz.ntmps98
  go_wp2_with fail
  refine (new_abs w).mono ?_
  rintro ee w1 ⟨p, rfl, W1, hp1, K1⟩
  have HW : Hid (Wn w w1 p (.slice none 0 0) []) := ⟨W1, K1, hp1, fun k hk => by cases hk⟩
  clear W1 hp1 K1
  go_wp2_with fail
  refine (num_any p n (.slice none 0 0) [] w1 HW.out.1 (by simp)).mono ?_
  rintro ee w2 ⟨rfl, v2, W2, S2⟩
  rw [List.nil_append, be_bqU] at W2
  have HW2 := hide (HW.out.step W2 S2)
  clear W2 S2 HW
  go_wp2_with fail
  go_loopw [15] (fun i wr => ∃ k : Nat, k ≤ n ∧ i = .int .i64 k ∧ ∃ vw, Wn w wr p vw (bq n ++ ((l.take k).map itmU).flatten)) (fun i _ => n - (intOf i).toNat)
  case atStart => exact ⟨0, by omega, rfl, v2, by simpa using HW2.out⟩
  case round =>
    obtain ⟨k, hk, rfl, vw, W⟩ := hrel
    have HWk := hide W
    clear W HW2
    by_cases hlt : k < n
    · have hlt' : (k : Int) < (n : Int) := by omega
      have hkl : k < l.length := by have := HN.out; omega
      obtain ⟨g, rfl, hc⟩ := (HR.out.kept HWk.out.2.1 (by simp)).at k hkl
      obtain ⟨hBx, hlx⟩ := HS.out l[k] (List.getElem_mem hkl)
      have he : ((l.take (k + 1)).map itmU).flatten = ((l.take k).map itmU).flatten ++ itmU l[k] := by
        rw [List.take_succ_eq_append_getElem hkl, List.map_append]; simp
      have hll : ((l.take k).map itmU).flatten.length ≤ 100000000 := by
        have h1 := flatU_len (l.take k) 65535 (fun r hr => (HS.out r (List.mem_of_mem_take hr)).2)
        rw [List.length_take] at h1
        have : min k l.length * (2 + 65535) ≤ 1000 * (2 + 65535) := Nat.mul_le_mul_right _ (by omega)
        omega
      obtain ⟨x, hx⟩ : ∃ x, x = l[k] := ⟨_, rfl⟩
      rw [← hx] at hc hBx hlx he
      obtain ⟨c5, w5, hcv, S5, K5⟩ := conv_big (strOfNums x) wr (by rw [str_size]; omega)
      rw [nums_str x hBx] at S5
      have HW5 := hide (HWk.out.kept K5)
      have HB5 := hide (bytes_ok p vw _ _ x w5 HW5.out.1 S5 (fun w1 k1 => S5.kept k1 (fun i hi hm => by
        have e : wr.heap.size = i := by simpa [Value.ownBlock] using hi
        simp only [List.mem_cons, Option.mem_toList] at hm
        rcases hm with hm | hm
        · have := HWk.out.1.lt; omega
        · have := (HWk.out.1.2.lt i hm).2; omega)) (by rw [List.length_append, bq_len]; omega) hlx)
      have HE := hide he
      clear S5 K5 HWk he hx hll
      go_wp2_with fail
      refine HB5.out.mono ?_
      rintro ee w6 ⟨rfl, v6, W6, S6⟩
      have HW6 := hide (HW5.out.step W6 S6)
      clear W6 S6 HB5 HW5 hcv hc
      go_wp2_with fail
      go_roundw
      case rel => exact ⟨k + 1, by omega, by go_num, v6, by have := HW6.out; rw [HE.out]; show Wn w w6 p v6 (bq n ++ (((l.take k).map itmU).flatten ++ (be2 x.length ++ x))); rw [beU_2] at this; simpa only [List.append_assoc] using this⟩
      case measure => simp [intOf]; omega
    · have hkn : k = n := by omega
      have HWn : Hid (Wn w wr p vw (batU l)) := by
        have := HWk.out
        rw [hkn, HN.out, List.take_length] at this
        exact this
      have hnlt : ¬ (k : Int) < (n : Int) := by omega
      have hbl : (batU l).length ≤ 100000000 := by
        have h1 := batU_len l 65535 (fun r hr => (HS.out r hr).2)
        have : l.length * (2 + 65535) ≤ 1000 * (2 + 65535) := Nat.mul_le_mul_right _ (by have := HN.out; omega)
        omega
      have HD := hide (done_any p vw _ wr HWn.out.1 (by omega))
      obtain ⟨m, hm⟩ : ∃ m, m = (batU l).length := ⟨_, rfl⟩
      rw [← hm] at HD
      have HM := hide hm
      clear hm hbl HWk hkn
      go_wp2_with fail
      refine HD.out.mono ?_
      rintro ee w5 ⟨a5, c5, rfl, R5, K5⟩
      have HR5 : Hid (Row w5 w.heap.size (.slice a5 m c5) (batU l)) := row_new (w0 := wr) (by unfold Row; rw [← HM.out]; exact R5) HWn.out.2.1
      have HK5 := hide (HWn.out.2.1.trans K5)
      clear R5 K5 HD
      go_wp2_with fail
      go_ret2
      exact ⟨a5, m, c5, rfl, HR5.out, HK5.out⟩
end Go.Proofs.YtillhpgdlmeajaaGreatDoor

/-
  Where a checkpoint's root lies, where a writer's bytes lie.
-/
namespace Go.Proofs.YtillhpgdlmeajaaGreatDoor
open Go.RowKit
open Go.Proofs
theorem CkV.sl {w : World} {a : Option Addr} {m c : Nat} {n : Int} {r : List Int} (h : CkV w (.agg #[.int .i64 n, .slice a m c]) n r) : Sl w (.slice a m c) r := by
  obtain ⟨a', m', c', e, h1, _⟩ := h
  simp only [Value.agg.injEq, Array.mk.injEq, List.cons.injEq, and_true, true_and] at e
  rw [e]
  exact h1
theorem Wr.vlt {w : World} {p : Nat} {v : Value} {bs : List Int} (h : Wr w p v bs) : ∀ k, v.ownBlock = some k → k < w.heap.size := by
  intro k hk
  rcases h.2.2 with ⟨rfl, _⟩ | ⟨g, cap, cur, rfl, _, hg, _⟩
  · cases hk
  · cases hk; exact (Array.getElem?_eq_some_iff.1 hg).1
end Go.Proofs.YtillhpgdlmeajaaGreatDoor

/-
  The contract of package check's copyOf.
-/
namespace Go.Proofs.YtillhpgdlmeajaaGreatDoor
open Go.RowKit
open Go.Proofs
set_option maxRecDepth 100000 in
set_option maxHeartbeats 1000000 in
theorem ckcopy_any (vc : Value) (n : Int) (r : List Int) (w : World) (hC : CkV w vc n r) (hl : r.length ≤ 1000) :
    Calls Tryz.prog 149 #[vc] w fun e w' => ∃ a m c, e = .returned (.agg #[.int .i64 n, .slice a m c]) ∧ Own w w' (.slice a m c) r ∧ Kp [] w w' := by
  obtain ⟨a, m, c, rfl, hS, -⟩ := hC
  obtain ⟨w2, hw2⟩ : ∃ w2, w2 = (w.alloc (.cells #[.int .i64 n, .slice a m c] 68)).alloc (.cells #[.int .i64 0, .slice none 0 0] 68) := ⟨_, rfl⟩
  obtain ⟨g1, hg1⟩ : ∃ g, g = w.heap.size := ⟨_, rfl⟩
  obtain ⟨g2, hg2⟩ : ∃ g, g = w.heap.size + 1 := ⟨_, rfl⟩
  have K2 : Kp [] w w2 := by rw [hw2]; exact ((Kp.refl [] w).alloc _).alloc _
  have G1 : w2.heap[g1]? = some (.cells #[.int .i64 n, .slice a m c] 68 (0, 0)) := by rw [hw2, hg1]; exact heap_alloc2_old w _ _
  have G2 : w2.heap[g2]? = some (.cells #[.int .i64 0, .slice none 0 0] 68 (0, 0)) := by rw [hw2, hg2]; exact heap_alloc2_new w _ _
  have c0 : w2.cell? ⟨g1, 0, none⟩ = some (.int .i64 n) := by rw [cell_of_row w2 g1 0 _ _ _ G1]; rfl
  have c1 : w2.cell? ⟨g1, 1, none⟩ = some (.slice a m c) := by rw [cell_of_row w2 g1 1 _ _ _ G1]; rfl
  have hs2 : Sl w2.drew (.slice a m c) r := (hS.kept K2 (by simp)).kept (kp_drew w2) (by simp)
  have hg2lt : g2 < w2.heap.size := lt_of_block G2
  have hR0 : Row w2.drew w2.heap.size (.slice none 0 0) [] := ⟨rfl, .inl ⟨rfl, rfl⟩⟩
  have HK2 := hide K2
  have HG2 := hide G2
  have HW2 := hide hw2
  have H1 := hide hg1
  have H2 := hide hg2
  have HL := hide hl
  clear hS K2 G1 G2 hw2 hg1 hg2 hl
  go_enter Tryz.func149, Tryz.ntmps149
  go_wp2_with fail
  rw [← unhide HW2, ← unhide H2, ← unhide H1]
  go_region_law (first
    | (refine step_append_row (by rfl) (.const (.slice none 0 0)) (.tmp 6) (by rfl) w2.heap.size (.slice none 0 0) [] (by rfl) hR0 (.slice a m c) r (by rfl) hs2 (by have := unhide HL; simp; omega) (Nat.le_refl _) ?_; intro a3 m3 c3 w3 R3 S3; have K3 : Kp [] w2 w3 := (kp_drew w2).trans (S3.1.mono (by simp [Value.ownBlock])); have G3 := K3.heap (unhide HG2) (by simp); have d0 : w3.cell? ⟨g1, 0, none⟩ = some (.int .i64 n) := K3.cell c0 (by simp); have d1 : w3.cell? ⟨g1, 1, none⟩ = some (.slice a m c) := K3.cell c1 (by simp); have G4 := heap_setCell_same w3 g2 0 _ _ (.int .i64 n) G3; have f0 : w3.cell? ⟨g2, 0, none⟩ = some (.int .i64 0) := (by rw [cell_of_row w3 g2 0 _ _ _ G3]; rfl); have z0 : w3.frozen? ⟨g2, 0, none⟩ = false := frozen_of_row w3 g2 0 _ _ G3; have f1 : (w3.setCell ⟨g2, 0, none⟩ (.int .i64 n)).cell? ⟨g2, 1, none⟩ = some (.slice none 0 0) := (by rw [cell_of_row _ g2 1 _ _ _ G4]; rfl); have z1 : (w3.setCell ⟨g2, 0, none⟩ (.int .i64 n)).frozen? ⟨g2, 1, none⟩ = false := frozen_of_row _ g2 1 _ _ G4))
  all_goals
   rw [List.nil_append] at R3
   have hown := R3.own
   have G5 := heap_setCell_same (w3.setCell ⟨g2, 0, none⟩ (.int .i64 n)) g2 1 _ _ (.slice a3 m3 c3) G4
   have G6 : ((w3.setCell ⟨g2, 0, none⟩ (.int .i64 n)).setCell ⟨g2, 1, none⟩ (.slice a3 m3 c3)).heap[g2]? = some (.cells #[.int .i64 n, .slice a3 m3 c3] 68 (0, 0)) := by simpa using G5
   have K4 : Kp [g2] w3 ((w3.setCell ⟨g2, 0, none⟩ (.int .i64 n)).setCell ⟨g2, 1, none⟩ (.slice a3 m3 c3)) := (kp_fcell w3 g2 0 _).trans (kp_fcell _ g2 1 _)
   clear f0 z0 f1 z1 G5
   go_wp2_with fail
   refine bodyPost_ret (results_flat1 rfl _ rfl G6 Tryz.underlying68 rfl Tryz.chkSize) rfl ?_
   refine ⟨a3, m3, c3, rfl, ⟨R3.sl.kept K4 (fun i hi => ?_), fun k hk => ?_⟩, ((unhide HK2).trans K3).then K4 (fun i hi => .inr ?_)⟩
   · have := hown i hi; simp; omega
   · have := hown k hk; have := (unhide HK2).size; omega
   · simp at hi; have := unhide H2; omega
end Go.Proofs.YtillhpgdlmeajaaGreatDoor

/-
  Lists of slices with the room behind them told: how they are cut.
-/
namespace Go.Proofs.YtillhpgdlmeajaaGreatDoor
open Go.RowKit
/-- v is a slice of slices that reads so; its room is no less than its length. -/
def Lc (w : World) (v : Value) (l : List (Value × List Int)) : Prop :=
  Lists w v l ∧ ∃ ao c, v = .slice ao l.length c ∧ l.length ≤ c ∧ c ≤ maxLen ∧ (ao = none → c = 0)
theorem Lc.kept {w w' : World} {v : Value} {l : List (Value × List Int)} (h : Lc w v l) (k : Kp [] w w') : Lc w' v l := ⟨h.1.kept k, h.2⟩
theorem Lc.take {w : World} {ao : Option Addr} {len c : Nat} {l : List (Value × List Int)} (h : Lc w (.slice ao len c) l) (n : Nat) (hn : n ≤ l.length) : Lc w (.slice ao n c) (l.take n) := by
  obtain ⟨h1, ao', c', e, h2, h3, h4⟩ := h
  cases e
  have hl : (l.take n).length = n := by simp; omega
  exact ⟨h1.take hn, ao, c, by rw [hl], by omega, h3, h4⟩
theorem Lc.drop {w : World} {ao : Option Addr} {len c : Nat} {l : List (Value × List Int)} (h : Lc w (.slice ao len c) l) (n : Nat) (hn : n ≤ l.length) :
    Lc w (.slice (if c = n then ao else ao.map (·.add n)) (len - n) (c - n)) (l.drop n) := by
  obtain ⟨⟨_, _, _, g1, g2⟩, ao', c', e, h2, h3, h4⟩ := h
  rename_i x1 x2 x3
  cases e
  cases x3
  have hl : (l.drop n).length = l.length - n := by simp
  refine ⟨⟨_, c - n, by rw [hl], by omega, fun i hi => ?_⟩, _, c - n, by rw [hl], by omega, by omega, fun ha => ?_⟩
  · have hi2 : n + i < l.length := by omega
    obtain ⟨b, off, e, h5, h6, h7⟩ := g2 (n + i) hi2
    subst e
    have e2 : (l.drop n)[i] = l[n + i] := by simp
    rw [e2, if_neg (by omega)]
    exact ⟨b, off + n, by simp [Addr.add_lit], by rw [Nat.add_assoc]; exact h5, h6, h7⟩
  · split at ha
    · omega
    · cases hao : ao with
      | none => have := h4 hao; omega
      | some x => rw [hao] at ha; cases ha
theorem Lc.shape {w : World} {v : Value} {l : List (Value × List Int)} (h : Lc w v l) : ∃ ao c, v = .slice ao l.length c ∧ l.length ≤ c ∧ c ≤ 9223372036854775807 ∧ (ao = none → c = 0) := by
  obtain ⟨_, ao, c, e, h2, h3, h4⟩ := h
  exact ⟨ao, c, e, h2, by unfold maxLen at h3; omega, h4⟩
theorem lc_of_owns {w : World} {base : Nat} {v : Value} {l : List (Value × List Int)} (h : RowV w base v (l.map (·.1))) (hL : Lists w v l) : Lc w v l := by
  refine ⟨hL, ?_⟩
  rcases h.2 with ⟨rfl, h0⟩ | ⟨g, cap, cur, rfl, _, hg, hc, hm, _⟩
  · have : l.length = 0 := by simpa using h0
    exact ⟨none, 0, by rw [this], by omega, by simp, fun _ => rfl⟩
  · exact ⟨some ⟨g, 0, none⟩, cap, by simp, by simpa using hc, hm, fun h => by cases h⟩
theorem run_lhead (ao : Option Addr) (n c k : Nat) (w : World) (h2 : k ≤ c) :
    (Instr.sliceAt 33 (.slice ao n c) none (some (.int .i64 k)) none).run Tryz.prog w = .ok (.slice ao k c) w := by
  have e3 : (k : Int) ≤ (c : Int) := by omega
  simp [go_sem, e3]
theorem run_lfrom (ao : Option Addr) (n c p : Nat) (w : World) (h1 : p ≤ n) (h2 : n ≤ c) (h4 : ao = none → c = 0) :
    (Instr.sliceAt 33 (.slice ao n c) (some (.int .i64 p)) none none).run Tryz.prog w = .ok (.slice (if c = p then ao else ao.map (·.add p)) (n - p) (c - p)) w := by
  have e2 : (p : Int) ≤ (n : Int) := by omega
  by_cases hc : c = p
  · rw [if_pos hc]
    subst hc
    simp [go_sem, e2]
  · rw [if_neg hc]
    cases ao with
    | none => have := h4 rfl; omega
    | some a => simp [go_sem, e2, hc]
end Go.Proofs.YtillhpgdlmeajaaGreatDoor

/-
  Lists of slices by their bytes, cut and looked at, as what an operation yields.
-/
namespace Go.Proofs.YtillhpgdlmeajaaGreatDoor
open Go.RowKit
/-- The value is a slice of slices that reads as these bytes; its room is told. -/
def LcM (ls : List (List Int)) : Tell := fun v w => ∃ l, Lc w v l ∧ l.map (·.2) = ls
theorem stable_lcm (ls : List (List Int)) : Tell.stable (LcM ls) := fun _ _ _ k ⟨l, h, e⟩ => ⟨l, h.kept k, e⟩
theorem LcM.kept {ls : List (List Int)} {v : Value} {w w' : World} (h : LcM ls v w) (k : Kp [] w w') : LcM ls v w' := stable_lcm ls _ _ _ k h
theorem LcM.bs {ls : List (List Int)} {v : Value} {w : World} (h : LcM ls v w) : ∀ x ∈ ls, Bs x := by
  obtain ⟨l, h1, rfl⟩ := h
  intro x hx
  obtain ⟨y, hy, rfl⟩ := List.mem_map.1 hx
  exact h1.1.bs y hy
theorem LcM.shape {ls : List (List Int)} {v : Value} {w : World} (h : LcM ls v w) : ∃ ao c, v = .slice ao ls.length c ∧ ls.length ≤ c ∧ c ≤ 9223372036854775807 ∧ (ao = none → c = 0) := by
  obtain ⟨l, h1, rfl⟩ := h
  rw [List.length_map]
  exact h1.shape
theorem LcM.take {ls : List (List Int)} {w : World} {ao : Option Addr} {len c : Nat} (h : LcM ls (.slice ao len c) w) (n : Nat) (hn : n ≤ ls.length) : LcM (ls.take n) (.slice ao n c) w := by
  obtain ⟨l, h1, rfl⟩ := h
  exact ⟨l.take n, h1.take n (by simpa using hn), by rw [List.map_take]⟩
theorem LcM.drop {ls : List (List Int)} {w : World} {ao : Option Addr} {len c : Nat} (h : LcM ls (.slice ao len c) w) (n : Nat) (hn : n ≤ ls.length) : LcM (ls.drop n) (.slice (if c = n then ao else ao.map (·.add n)) (len - n) (c - n)) w := by
  obtain ⟨l, h1, rfl⟩ := h
  exact ⟨l.drop n, h1.drop n (by simpa using hn), by rw [List.map_drop]⟩
/-- a slice at a place of a list. -/
theorem LcM.at {ls : List (List Int)} {w : World} {ao : Option Addr} {len c : Nat} (h : LcM ls (.slice ao len c) w) (i : Nat) (x : List Int) (hx : ls[i]? = some x) : len = ls.length ∧ ∃ b off u, ao = some ⟨b, off, none⟩ ∧ w.cell? ⟨b, off + i, none⟩ = some u ∧ Sl w u x ∧ Bs x := by
  obtain ⟨l, ⟨⟨_, _, e, _, h2⟩, _⟩, rfl⟩ := h
  cases e
  rw [List.getElem?_map] at hx
  obtain ⟨y, hy, rfl⟩ := Option.map_eq_some_iff.1 hx
  obtain ⟨hi, rfl⟩ := List.getElem?_eq_some_iff.1 hy
  obtain ⟨b, off, e, h3, h4, h5⟩ := h2 i hi
  exact ⟨by simp, b, off, _, e, h3, h4, h5⟩
/-- The value is a row of bytes from base on. -/
def RwT (base : Nat) (r : List Int) : Tell := fun v w => ∃ ao m c, v = .slice ao m c ∧ Row w base (.slice ao m c) r
theorem stable_rw (base : Nat) (r : List Int) : Tell.stable (RwT base r) := fun _ _ _ k ⟨ao, m, c, e, h⟩ => ⟨ao, m, c, e, h.kept k (by simp)⟩
section
variable {o : Oper} {a : Act} {w : World}
theorem grown_lhead (s k : Operand) (ls : List (List Int)) (n : Nat) (ho : o.op = .slice 33 s none (some k) none) (h : LcM ls (a.eval s) w) (hk : a.eval k = .int .i64 (n : Nat)) (hn : n ≤ ls.length) : grown Tryz.prog w (LcM (ls.take n)) ((execOp a.eval o).run Tryz.prog w) := by
  obtain ⟨ao, c, e, h1, h2, h3⟩ := h.shape
  rw [e] at h
  refine grown_run (v := .slice ao n c) (w' := w) ?_ (Kp.refl _ _) (h.take n hn)
  have hr := run_lhead ao ls.length c n w (by omega)
  unfold execOp
  simp only [ho, e, hk, Sem.run_bind, hr, Result.andThen_ok, Sem.run_pure, Option.map_some, Option.map_none]
theorem grown_lfrom (s k : Operand) (ls : List (List Int)) (n : Nat) (ho : o.op = .slice 33 s (some k) none none) (h : LcM ls (a.eval s) w) (hk : a.eval k = .int .i64 (n : Nat)) (hn : n ≤ ls.length) : grown Tryz.prog w (LcM (ls.drop n)) ((execOp a.eval o).run Tryz.prog w) := by
  obtain ⟨ao, c, e, h1, h2, h3⟩ := h.shape
  rw [e] at h
  refine grown_run (w' := w) ?_ (Kp.refl _ _) (h.drop n hn)
  have hr := run_lfrom ao ls.length c n w hn h1 h3
  unfold execOp
  simp only [ho, e, hk, Sem.run_bind, hr, Result.andThen_ok, Sem.run_pure, Option.map_some, Option.map_none]
end
end Go.Proofs.YtillhpgdlmeajaaGreatDoor

/-
  The contracts of the law package's helpers Seed and Hash, as functions.
-/
namespace Go.Proofs.YtillhpgdlmeajaaGreatDoor
open Go.RowKit
open Go.Proofs
def seedX (n : Int) : List Int := sha [99, wiP n 0 1000 % 5]
theorem seedX_len (n : Int) : (seedX n).length = 32 := sha_len _
theorem seedX_bs (n : Int) : Bs (seedX n) := sha_bs _
set_option maxRecDepth 100000 in
set_option maxHeartbeats 1000000 in
theorem xseed_any (n : Int) (w : World) :
    Calls Tryz.prog 9 #[.int .i64 n] w fun e w' => ∃ ao m c, e = .returned (.slice ao m c) ∧ Row w' w.heap.size (.slice ao m c) (seedX n) ∧ Kp [] w w' := by
  have HW := hide (within_wi n 0 1000 w (by omega) (by omega) (by omega))
  obtain ⟨x, hx⟩ : ∃ x, x = wiP n 0 1000 := ⟨_, rfl⟩
  obtain ⟨hxb, hxc⟩ := wiP_ge n 0 1000 (by omega)
  rw [← hx] at HW hxb hxc
  have HX := hide hx
  clear hx
  go_enter Tryz.func9, Tryz.ntmps9
  go_wp2_with fail
  refine (unhide HW).mono ?_
  rintro ee w1 ⟨rfl, hw⟩
  subst w1
  clear HW
  go_wp2_with fail
  obtain ⟨ob, hob⟩ : ∃ o : Obj, o = (.cells #[.int .u8 (x % 5)] 5) := ⟨_, rfl⟩
  have hP : Sl (w.alloc ob) (.slice (some ⟨w.heap.size, 0, none⟩) 1 1) [x % 5] := by
    rw [hob]; exact Sl.block (cs := [x % 5]) (t := 5) (fr := (0, 0)) (heap_alloc_new w _) (by simp [maxLen])
  have hPB : Bs [x % 5] := by
    intro b hb
    obtain rfl : b = x % 5 := by simpa using hb
    omega
  have Ka := (Kp.refl [] w).alloc ob
  have HL := lists1 hP hPB
  rw [show (w.alloc ob).heap.size = w.heap.size + 1 by simp] at HL
  have HK := hide (Ka.alloc (.cells #[.slice (some ⟨w.heap.size, 0, none⟩) 1 1] 22))
  rw [← hob]
  refine (reftagged_any 99 _ _ _ rfl _ HL (by omega) (by omega) (by simp) (by simp)).mono ?_
  rintro ee w2 ⟨ao2, m2, c2, rfl, R2, K2⟩
  have hr : sha (99 :: cat [(Value.slice (some ⟨w.heap.size, 0, none⟩) 1 1, [x % 5])]) = seedX n := by unfold seedX; rw [← unhide HX]; rfl
  rw [hr] at R2
  have HR2 := hide (row_new R2 (unhide HK))
  have HK2 := hide ((unhide HK).trans K2)
  clear HL HK hob R2 K2 Ka hP hPB hr
  go_wp2_with fail
  go_ret
  exact ⟨ao2, m2, c2, rfl, unhide HR2, unhide HK2⟩
end Go.Proofs.YtillhpgdlmeajaaGreatDoor

/-
  The contract of package ledger's unlaid: what a record is read as.
-/
namespace Go.Proofs.YtillhpgdlmeajaaGreatDoor
open Go.RowKit
open Go.Proofs
set_option linter.unusedVariables false
/-- such a row whose slices lie from base on. -/
def RowsQ (w : World) (base : Nat) (v : Value) (l : List (Value × List Int)) : Prop := RowS w base v l ∧ ∀ x ∈ l, ∀ k, x.1.ownBlock = some k → base ≤ k
theorem RowsQ.kept {w w' : World} {base : Nat} {v : Value} {l : List (Value × List Int)} {S : List Nat} (h : RowsQ w base v l) (k : Kp S w w') (hS : ∀ i ∈ S, i < base) : RowsQ w' base v l :=
  ⟨⟨h.1.1.kept k (fun i hi hm => by have := h.1.1.own i hi; have := hS i hm; omega), fun x hx => ⟨(h.1.2 x hx).1.kept k (fun i hi hm => by have := h.2 x hx i hi; have := hS i hm; omega), (h.1.2 x hx).2⟩⟩, h.2⟩
theorem wpList_rowsQ {base : Nat} {w2 : World} {ops : Array Oper} {rest : List Oper} {o : Oper} {a : Act} {Q : Exit → Act → World → Prop} (hgd : o.guard = none) (s x : Operand)
    (ho : o.op = .call { callee := .builtin .append, args := #[s, x], argTypes := #[33, 33] }) (v : Value) (l : List (Value × List Int)) (hs : a.eval s = v) (hP : RowsQ w2 base v l) (hbase : base ≤ w2.heap.size) (hl : l.length ≤ 1000000)
    (vx : Value) (bs : List Int) (hr : Sl w2 vx bs) (hap : ∀ i, vx.ownBlock = some i → v.ownBlock ≠ some i) (hnb : ∀ i, vx.ownBlock = some i → base ≤ i) (hb : Bs bs) (hx : a.eval x = .slice (some ⟨w2.heap.size, 0, none⟩) 1 1)
    (h : ∀ ao m c w', RowsQ w' base (.slice ao m c) (l ++ [(vx, bs)]) → Kp v.ownBlock.toList w2 w' → wpList Tryz.prog ops Q rest (a.put o.dst (.slice ao m c)) w') : wpList Tryz.prog ops Q (o :: rest) a (w2.alloc (.cells #[vx] 22)) := by
  have k2 : Kp [] w2 (w2.alloc (.cells #[vx] 22)) := (Kp.refl [] w2).alloc _
  have hP2 := hP.1.kept k2
  obtain ⟨ax, cx, hvx, -⟩ := id hr
  refine wpList_append_rowv hgd s x ho base v (l.map (·.1)) hs hP2.1 ⟨w2.heap.size, 0, none⟩ 1 [vx] hx ?_ ?_ ?_ ?_ ?_
  · intro j u hu
    exact World.news_of_block (heap_alloc_new w2 _) j u (by simpa using hu)
  · simp [hvx, Value.oneCell']
  · simp; omega
  · simp; omega
  · intro ao m c w' r st
    refine h ao m c w' ⟨hP2.snocJ (x := (vx, bs)) (hr.kept k2 (by simp)) hb (fun i h1 h2 => absurd h2 (hap i h1)) r st, fun y hy => ?_⟩ ?_
    · rcases List.mem_append.1 hy with hy | hy
      · exact hP.2 y hy
      · obtain rfl : y = (vx, bs) := by simpa using hy
        exact hnb
    · exact (k2.mono (by simp)).trans st.1
theorem ubad_any (q : Nat) (v : Value) (bad : Bool) (bs : List Int) (w : World) (h : Rd w q v bad bs) :
    Calls Tryz.prog 128 #[.pointer (some ⟨q, 0, none⟩)] w fun e w' => e = .returned (.bool bad) ∧ w' = w := by
  have hc1 := (cell_of_two h.1).2
  clear h
  go_enter Tryz.func128, Tryz.ntmps128
  go_wp2
  go_ret
  exact ⟨rfl, rfl⟩
theorem val_u32 (cs : List Int) (h : Bs cs) (hl : cs.length ≤ 4) : 0 ≤ val cs ∧ val cs ≤ 4294967295 := by
  have h1 := val_bd cs h
  have : cs.length = 0 ∨ cs.length = 1 ∨ cs.length = 2 ∨ cs.length = 3 ∨ cs.length = 4 := by omega
  rcases this with e | e | e | e | e <;> rw [e] at h1 <;> omega
theorem tkb_less {b : List Int} (h : (tkb false b 65535).2.1 = false) : (tkb false b 65535).2.2.length + 2 ≤ b.length := by
  obtain ⟨h1, h2, h3, h4⟩ := tkb_bad h
  rw [h4]
  have := @tk_len false (b.drop 2) (val (b.take 2))
  rw [List.length_drop] at this
  omega
theorem itsU_step {k : Nat} {b b' x : List Int} {xs : List (List Int)} (h : tkb false b 65535 = (x, false, b')) : (itsU (k + 1) b).map (xs ++ ·) = (itsU k b').map ((xs ++ [x]) ++ ·) := by
  rw [itsU, h]
  simp only [Bool.false_eq_true, if_false]
  cases itsU k b' <;> simp
/-- the end of the loop. -/
theorem unl_end {n0 k : Nat} {b0 b r : List Int} {bad0 bad : Bool} {xs : List (List Int)} (hU : unlU r = if bad0 then none else if n0 = 0 then none else itsU n0 b0) (hk : xs.length + k = n0) (hx : k = 0 ∨ bad = true) (h1 : bad = true → k = 0 ∧ n0 = 0 ∨ itsU n0 b0 = none) (h2 : bad = false → bad0 = false ∧ itsU n0 b0 = (itsU k b).map (xs ++ ·)) :
    (decide (0 < xs.length) && (!bad && b.isEmpty)) = (unlU r).isSome ∧ ∀ ys, unlU r = some ys → xs = ys := by
  cases bad with
  | true =>
    have e : unlU r = none := by
      rw [hU]
      split
      · rfl
      · split
        · rfl
        · rcases h1 rfl with h | h
          · omega
          · exact h
    rw [e]
    exact ⟨by simp, fun ys h => by cases h⟩
  | false =>
    obtain ⟨h3, h4⟩ := h2 rfl
    have hk0 : k = 0 := hx.resolve_right (by simp)
    subst hk0
    rw [h3] at hU
    simp only [Bool.false_eq_true, if_false] at hU
    rw [hU, h4]
    unfold itsU
    cases xs with
    | nil => simp at hk; subst hk; simp
    | cons y ys =>
      have : n0 ≠ 0 := by simp at hk; omega
      rw [if_neg this]
      cases b with
      | nil => simp
      | cons c cs => simp
set_option maxRecDepth 100000 in
set_option maxHeartbeats 4000000 in
theorem unlaid_any (v : Value) (r : List Int) (w : World) (hS : Sl w v r) (hB : Bs r) (hl : r.length ≤ 1000000) (ok : Bool) (hok0 : ok = (unlU r).isSome) :
    Calls Tryz.prog 90 #[v] w fun e w' => ∃ ao m c, e = .returned (.tuple #[.slice ao m c, .bool ok]) ∧ Kp [] w w' ∧ ∀ xs, unlU r = some xs → ∃ l, RowsQ w' w.heap.size (.slice ao m c) l ∧ l.map (·.2) = xs := by
  have HRd := hide (read_any v r w hS (by omega))
  have HOk0 := hide hok0
  clear hok0
  have HB := hide hB
  have HL := hide hl
  obtain ⟨ab, cb, rfl, -⟩ := hS
  obtain ⟨nr, hnr⟩ : ∃ n, n = r.length := ⟨_, rfl⟩
  rw [← hnr] at HRd ⊢
  have HNr := hide hnr
  clear hB hl hnr
  go_enter Tryz.func90, Tryz.ntmps90
  go_wp2_with fail
  refine HRd.out.mono ?_
  rintro ee w1 ⟨q, v1, rfl, hq, R1, hv1, K1⟩
  have HNm := hide (rnum_any q v1 false r w1 R1 HB.out)
  have HQ := hide hq
  have HK1 := hide K1
  have hq1 := lt_of_block R1.1
  have HV1 := hide hv1
  clear HRd hq R1 hv1 K1
  obtain ⟨n0, hn0⟩ : ∃ n : Nat, (val (tk false r 4).1) = (n : Int) ∧ n ≤ 4294967295 := by
    have h0 := val_u32 (tk false r 4).1 (tk_bs1 HB.out) (@tk_len1 false r 4)
    exact ⟨(val (tk false r 4).1).toNat, by omega, by omega⟩
  rw [hn0.1] at HNm
  have HN0 := hide hn0.1
  have hn32 := hn0.2
  clear hn0
  go_wp2_with fail
  refine HNm.out.mono ?_
  rintro ee w2 ⟨rfl, ⟨v2, R2, o2⟩, K2⟩
  obtain ⟨bad0, b0, hb0⟩ : ∃ bad b, (tk false r 4).2 = (bad, b) := ⟨_, _, rfl⟩
  rw [hb0] at R2
  simp only at R2
  have HBd : Hid (Bs b0) := hide (by have := @tk_bs2 false r 4 HB.out; rw [hb0] at this; exact this)
  have HBL : Hid (b0.length ≤ 1000000) := hide (by have := @tk_len false r 4; rw [hb0] at this; simp only at this; have := HL.out; omega)
  have HU : Hid (unlU r = if bad0 then none else if n0 = 0 then none else itsU n0 b0) := by
    refine hide ?_
    have hv := HN0.out
    unfold unlU
    by_cases h4 : r.length < 4
    · rw [if_pos h4]
      rw [tk_no false r 4 (.inr (by omega))] at hb0
      injection hb0 with e1 e2
      rw [← e1]; rfl
    · rw [if_neg h4]
      have e := tk_ok false r 4 (by omega)
      rw [show ((4 : Nat) : Int) = 4 from rfl] at e
      rw [e] at hb0 hv
      injection hb0 with e1 e2
      simp only at hv
      rw [← e1, ← e2, hv]
      simp
  have HB0 : Hid (bad0 = true → n0 = 0) := by
    refine hide (fun hb => ?_)
    by_cases h4 : r.length < 4
    · have hv := HN0.out
      rw [tk_no false r 4 (.inr (by omega))] at hv
      have : val [] = 0 := rfl
      simp only at hv
      omega
    · have e := tk_ok false r 4 (by omega)
      rw [show ((4 : Nat) : Int) = 4 from rfl] at e
      rw [e] at hb0
      injection hb0 with e1 e2
      rw [hb] at e1; cases e1
  have HI : Hid (∃ (k : Nat) (bad : Bool) (b : List Int) (l : List (Value × List Int)) (rv : Value), k ≤ n0 ∧ (Value.int .u32 (n0 : Int)) = .int .u32 k ∧ (∃ ao m c, (Value.slice none 0 0) = .slice ao m c) ∧ l.length + k = n0 ∧ Rd w2 q rv bad b ∧ (∀ i, rv.ownBlock = some i → i < w1.heap.size) ∧ Bs b ∧ b.length ≤ 1000000 ∧ RowsQ w2 w1.heap.size (.slice none 0 0) l ∧ Kp [q] w1 w2 ∧ l.length ≤ 1000000 ∧ (bad = false → l.length * 2 + b.length ≤ 1000004) ∧ (bad = true → k = 0 ∧ n0 = 0 ∨ itsU n0 b0 = none) ∧ (bad = false → bad0 = false ∧ itsU n0 b0 = (itsU k b).map (l.map (·.2) ++ ·))) := by
    refine hide ⟨n0, bad0, b0, [], v2, Nat.le_refl _, rfl, ⟨_, _, _, rfl⟩, by simp, R2, fun i hi => (HV1.out i (o2 i hi)).2, HBd.out, HBL.out, ⟨⟨World.ownsRow_nil _ _ _ _, by simp⟩, by simp⟩, K2, by simp, fun _ => by have := HBL.out; simp; omega, fun hb => .inl ⟨HB0.out hb, HB0.out hb⟩, fun hb => ⟨hb, by simp⟩⟩
  clear HNm R2 o2 K2 hb0
  go_wp2_with fail
  go_loopw [5, 6] (fun o s wr => ∃ (k : Nat) (bad : Bool) (b : List Int) (l : List (Value × List Int)) (rv : Value), k ≤ n0 ∧ s = .int .u32 k ∧ (∃ ao m c, o = .slice ao m c) ∧ l.length + k = n0 ∧ Rd wr q rv bad b ∧ (∀ i, rv.ownBlock = some i → i < w1.heap.size) ∧ Bs b ∧ b.length ≤ 1000000 ∧ RowsQ wr w1.heap.size o l ∧ Kp [q] w1 wr ∧ l.length ≤ 1000000 ∧ (bad = false → l.length * 2 + b.length ≤ 1000004) ∧ (bad = true → k = 0 ∧ n0 = 0 ∨ itsU n0 b0 = none) ∧ (bad = false → bad0 = false ∧ itsU n0 b0 = (itsU k b).map (l.map (·.2) ++ ·))) (fun _ s _ => (intOf s).toNat)
  case atStart => exact HI.out
  case round =>
    obtain ⟨k, bad, b, l, rv, hkn, rfl, ⟨ao, m, c, rfl⟩, hlk, R, hrv, hBb, hbl, P, K, hll, hl2, h1, h2⟩ := hrel
    have HR := hide R
    have HRv := hide hrv
    have HBb := hide hBb
    have Hbl := hide hbl
    have HP := hide P
    have HK := hide K
    have HB1 := hide h1
    have HB2 := hide h2
    have HLk := hide hlk
    have Hl2 := hide hl2
    have HKw : Hid (Kp [] w wr) := HK1.out.then K (fun i hi => .inr (by simp at hi; subst hi; exact HQ.out))
    have HPw : Hid (RowsQ wr w.heap.size (.slice ao m c) l) := by
      have hs := HK1.out.size
      exact hide ⟨⟨owns_rebase P.1.1 (fun i hi => Nat.le_trans hs (P.1.1.own i hi)), P.1.2⟩, fun x hx i hi => Nat.le_trans hs (P.2 x hx i hi)⟩
    clear HI R hrv hBb hbl P K h1 h2 hlk hl2
    by_cases hk0 : k = 0
    · have hk' : ¬ (0 : Int) < (k : Int) := by omega
      have hdk : decide ((0 : Int) < (k : Int)) = false := decide_eq_false hk'
      obtain ⟨hok, hxs⟩ := unl_end (xs := l.map (·.2)) HU.out (by rw [List.length_map]; exact HLk.out) (.inl hk0) HB1.out HB2.out
      rw [List.length_map] at hok
      have HOk := hide hok
      have HXs := hide hxs
      obtain ⟨ml, hml⟩ : ∃ m, m = l.length := ⟨_, rfl⟩
      have hmm : m = ml := by rw [hml]; have := HP.out.1.1.len; simpa using this
      subst hmm
      rw [← hml] at HOk
      clear hok hxs
      by_cases hpos : 0 < m
      · have hpos' : (0 : Int) < (m : Int) := by omega
        have hd : decide ((0 : Int) < (m : Int)) = true := decide_eq_true hpos'
        have HEnd := hide (end_any q rv bad b wr HR.out)
        obtain ⟨eb, heb⟩ : ∃ x, x = (!bad && b.isEmpty) := ⟨_, rfl⟩
        rw [← heb] at HEnd
        have HEB := hide heb
        clear hml heb
        go_wp2_with fail
        refine HEnd.out.mono ?_
        rintro ee w3 ⟨rfl, hw⟩
        subst w3
        clear HEnd
        go_wp2_with fail
        have heo : eb = ok := by rw [HOk0.out, ← HOk.out, HEB.out]; simp [hpos]
        subst heo
        go_ret2
        exact ⟨ao, m, c, rfl, HKw.out, fun xs hxs => ⟨l, HPw.out, HXs.out xs hxs⟩⟩
      · have hpos' : ¬ (0 : Int) < (m : Int) := by omega
        have hd : decide ((0 : Int) < (m : Int)) = false := decide_eq_false hpos'
        clear hml
        go_wp2_with fail
        have heo : ok = false := by rw [HOk0.out, ← HOk.out]; simp [hpos]
        subst heo
        go_ret2
        exact ⟨ao, m, c, rfl, HKw.out, fun xs hxs => ⟨l, HPw.out, HXs.out xs hxs⟩⟩
    · have hk' : (0 : Int) < (k : Int) := by omega
      have hdk : decide ((0 : Int) < (k : Int)) = true := decide_eq_true hk'
      have HBad := hide (ubad_any q rv bad b wr HR.out)
      by_cases hbt : bad = true
      · subst hbt
        obtain ⟨hok, hxs⟩ := unl_end (xs := l.map (·.2)) HU.out (by rw [List.length_map]; exact HLk.out) (.inr rfl) HB1.out HB2.out
        rw [List.length_map] at hok
        have HOk := hide hok
        have HXs := hide hxs
        obtain ⟨ml, hml⟩ : ∃ m, m = l.length := ⟨_, rfl⟩
        have hmm : m = ml := by rw [hml]; have := HP.out.1.1.len; simpa using this
        subst hmm
        rw [← hml] at HOk
        clear hok hxs
        by_cases hpos : 0 < m
        · have hpos' : (0 : Int) < (m : Int) := by omega
          have hd : decide ((0 : Int) < (m : Int)) = true := decide_eq_true hpos'
          have HEnd := hide (end_any q rv true b wr HR.out)
          obtain ⟨eb, heb⟩ : ∃ x, x = (!true && b.isEmpty) := ⟨_, rfl⟩
          rw [← heb] at HEnd
          have HEB := hide heb
          clear hml heb
          go_wp2_with fail
          refine HBad.out.mono ?_
          rintro ee w3 ⟨rfl, hw⟩
          subst w3
          clear HBad
          go_wp2_with fail
          refine HEnd.out.mono ?_
          rintro ee w3 ⟨rfl, hw⟩
          subst w3
          clear HEnd
          go_wp2_with fail
          have heo : eb = ok := by rw [HOk0.out, ← HOk.out, HEB.out]; simp [hpos]
          subst heo
          go_ret2
          exact ⟨ao, m, c, rfl, HKw.out, fun xs hxs => ⟨l, HPw.out, HXs.out xs hxs⟩⟩
        · have hpos' : ¬ (0 : Int) < (m : Int) := by omega
          have hd : decide ((0 : Int) < (m : Int)) = false := decide_eq_false hpos'
          clear hml
          go_wp2_with fail
          refine HBad.out.mono ?_
          rintro ee w3 ⟨rfl, hw⟩
          subst w3
          clear HBad
          go_wp2_with fail
          have heo : ok = false := by rw [HOk0.out, ← HOk.out]; simp [hpos]
          subst heo
          go_ret2
          exact ⟨ao, m, c, rfl, HKw.out, fun xs hxs => ⟨l, HPw.out, HXs.out xs hxs⟩⟩
      · obtain rfl : bad = false := by simpa using hbt
        have HBy := hide (rbytes_any q rv false b 65535 wr HR.out HBb.out (by have := Hbl.out; omega))
        obtain ⟨x, bad', b', ht⟩ : ∃ x bad' b', tkb false b 65535 = (x, bad', b') := ⟨_, _, _, rfl⟩
        rw [ht] at HBy
        simp only at HBy
        have HTk := hide ht
        have hw32 : IntKind.u32.wrap ((k : Int) - 1) = (k : Int) - 1 := by simp [IntKind.wrap, IntKind.signed, IntKind.bits]; omega
        clear ht hbt
        go_wp2_with fail
        refine HBad.out.mono ?_
        rintro ee w3 ⟨rfl, hw⟩
        subst w3
        clear HBad
        go_wp2_with fail
        refine HBy.out.mono ?_
        rintro ee w3 ⟨a3, c3, rfl, ⟨S3, o3⟩, ⟨v3, R3, ov3⟩, K3⟩
        obtain ⟨nx, hnx⟩ : ∃ n, n = x.length := ⟨_, rfl⟩
        rw [← hnx] at S3 o3 ⊢
        have HS3 := hide S3
        have Ho3 := hide o3
        have HR3 := hide R3
        have Hov3 := hide ov3
        have HK3 := hide K3
        have HP3 : Hid (RowsQ w3 w1.heap.size (.slice ao m c) l) := HP.out.kept K3 (by simpa using hq1)
        have hszr := HK.out.size
        have hszr3 := K3.size
        have HBx : Hid (Bs x) := hide (by have := @tkb_bs1 false b 65535 HBb.out; rw [HTk.out] at this; exact this)
        have hll2 : l.length ≤ 500002 := by have := Hl2.out (by first | rfl | trivial); omega
        clear HBy S3 o3 R3 ov3 K3 hnx
        go_wp2_with (at_builtin; refine wpList_rowsQ rfl (.tmp 20) (.tmp 23) rfl (.slice ao m c) l rfl HP3.out (by omega) (by omega) _ x HS3.out (fun i hi e => by have := Ho3.out i hi; have := HP.out.1.1.lt e; omega) (fun i hi => by have := Ho3.out i hi; omega) HBx.out rfl ?_; intro a7 m7 c7 w7 P7 K7)
        go_roundw
        case rel =>
          have hne : ∀ i, (Value.slice ao m c).ownBlock = some i → w1.heap.size ≤ i := HP.out.1.1.own
          have hR7 : Rd w7 q v3 bad' b' := HR3.out.kept K7 (fun hm => by have := hne q (by simpa [Option.mem_toList] using hm); omega) (fun i hi hm => by have h1 := HRv.out i (Hov3.out i hi); have := hne i (by simpa [Option.mem_toList] using hm); omega)
          refine ⟨k - 1, bad', b', l ++ [(_, x)], v3, by omega, ?_, ⟨a7, m7, c7, rfl⟩, ?_, hR7, fun i hi => HRv.out i (Hov3.out i hi), ?_, ?_, P7, (HK.out.trans HK3.out).then K7 (fun i hi => .inr (hne i (by simpa [Option.mem_toList] using hi))), ?_, ?_, ?_, ?_⟩
          · congr 1; omega
          · rw [List.length_append]; have := HLk.out; simp; omega
          · have := @tkb_bs2 false b 65535 HBb.out; rw [HTk.out] at this; exact this
          · have := @tkb_len false b 65535; rw [HTk.out] at this; simp only at this; have := Hbl.out; omega
          · rw [List.length_append]; simp; omega
          · intro hb
            rw [List.length_append]
            simp only [List.length_cons, List.length_nil]
            have h3 := tkb_less (b := b) (by rw [HTk.out]; exact hb)
            rw [HTk.out] at h3
            simp only at h3
            have h4 := Hl2.out (by first | rfl | trivial)
            omega
          · intro hb
            refine .inr ?_
            obtain ⟨e1, e2⟩ := HB2.out (by first | rfl | trivial)
            rw [e2, show k = (k - 1) + 1 by omega]
            unfold itsU
            rw [HTk.out, hb]
            rfl
          · intro hb
            obtain ⟨e1, e2⟩ := HB2.out (by first | rfl | trivial)
            refine ⟨e1, ?_⟩
            have hk1 : k = (k - 1) + 1 := by omega
            rw [e2]
            have ht := HTk.out
            rw [hb] at ht
            have := itsU_step (k := k - 1) (xs := l.map (·.2)) ht
            rw [← hk1] at this
            rw [this, List.map_append]
            rfl
        case measure => simp [intOf]; omega
end Go.Proofs.YtillhpgdlmeajaaGreatDoor

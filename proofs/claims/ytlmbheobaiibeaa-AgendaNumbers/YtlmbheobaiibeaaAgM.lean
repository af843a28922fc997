/-
  The agenda's methods: New, Len, first, Next, Due, Add.
-/
import Derived.Test.YtlmbheobaiibeaaQClone
import Derived.Test.YtlmbheobaiibeaaAgP
import Derived.Test.YtlmbheobaiibeaaATail
import Derived.Laws.ResultCell
import Derived.Laws.Rows
namespace Go.Proofs.Ytlmbheobaiibeaa
open Go.RowKit Go.Sort Go.Lib

/-- The agenda at p: what is to be done, in order; k were added. -/
structure Ag (w : World) (p : Nat) (v : Value) (m : List En) (k : Nat) : Prop where
  ex : ∃ d, Qs w p v d (k : Int) ∧ Hp d d.size ∧ d.toList.Perm m
  srt : Srt m
  num : ∀ e ∈ m, e.num < (k : Int)
  cnt : m.length ≤ k
/-- The blocks of an agenda. -/
def fp (p : Nat) (v : Value) : List Nat := p :: v.ownBlock.toList
theorem Ag.kept {w w' : World} {p : Nat} {v : Value} {m : List En} {k : Nat} (h : Ag w p v m k) {S : List Nat} (q : Kp S w w') (hS : ∀ i ∈ fp p v, i ∉ S) : Ag w' p v m k := by
  obtain ⟨d, h1, h2⟩ := h.ex
  exact ⟨⟨d, h1.kept q (hS p (by simp [fp])) (fun i hi => hS i (by simp [fp, hi])), h2⟩, h.srt, h.num, h.cnt⟩
theorem Ag.keptN {w w' : World} {p : Nat} {v : Value} {m : List En} {k : Nat} (h : Ag w p v m k) (q : Kp [] w w') : Ag w' p v m k := h.kept q (by simp)
theorem Ag.lt {w : World} {p : Nat} {v : Value} {m : List En} {k : Nat} (h : Ag w p v m k) : ∀ i ∈ fp p v, i < w.heap.size := by
  obtain ⟨d, h1, _⟩ := h.ex
  intro i hi
  simp only [fp, List.mem_cons, Option.mem_toList] at hi
  rcases hi with rfl | hi
  · exact h1.lt
  · exact (h1.own.lt i hi).2

theorem new_ag (w : World) : Calls Try.prog 11 #[] w fun e w' => ∃ p, e = .returned (.pointer (some ⟨p, 0, none⟩)) ∧ Ag w' p (.slice none 0 0) [] 0 ∧ w.heap.size ≤ p ∧ Kp [] w w' := by
  go_enter Try.func11, Try.ntmps11
  go_wp2
  go_ret
  refine ⟨w.heap.size, rfl, ⟨⟨#[], ⟨heap_alloc_new w _, World.ownsRow_nil _ _ _ _⟩, fun k h1 h2 => by simp at h2, List.Perm.refl _⟩, List.Pairwise.nil, by simp, by simp⟩, Nat.le_refl _, (Kp.refl [] w).alloc _⟩

theorem qs_val {w : World} {p : Nat} {v : Value} {d : Array En} {k : Int} (h : Qs w p v d k) : ∃ ao c, v = .slice ao d.size c := by
  rcases h.own.2 with ⟨rfl, h0⟩ | ⟨g, cap, cur, rfl, _⟩
  · rw [h0]; exact ⟨_, _, rfl⟩
  · exact ⟨_, _, rfl⟩

theorem len_ag (p : Nat) (v : Value) (m : List En) (k : Nat) (w : World) (h : Ag w p v m k) : Calls Try.prog 16 #[.pointer (some ⟨p, 0, none⟩)] w fun e w' => e = .returned (.int .i64 (m.length : Nat)) ∧ w' = w := by
  obtain ⟨d, h1, _, h3⟩ := h.ex
  have hc := h1.cell
  obtain ⟨ao, c, rfl⟩ := qs_val h1
  have hl : d.size = m.length := by have := h3.length_eq; simpa using this
  rw [hl] at hc
  clear h h1 h3 hl
  go_enter Try.func16, Try.ntmps16
  go_wp2
  go_ret
  exact ⟨rfl, rfl⟩

/-- An entry as a value. -/
def En.val (e : En) : Value := .agg #[.int .i64 e.at_, .int .i64 e.num, .int .i64 e.what]

theorem results_first (tmps : Array Value) (w : World) (g : Nat) (e : En) (hp : tmps.getD 2 undef = .pointer (some ⟨g, 0, none⟩)) (hg : w.heap[g]? = some (.cells #[.int .i64 e.at_, .int .i64 e.num, .int .i64 e.what] 53 (0, 0))) :
    (results Try.f22 tmps).run Try.prog w = .ok (.tuple #[e.val, tmps.getD 3 undef]) w := by
  have hl : (loadVar 53 ⟨g, 0, none⟩).run Try.prog w = .ok e.val w :=
    run_loadVar_row w g 53 53 _ (0, 0) _ hg Try.underlying53 rfl (by kernel_rfl)
  rw [results_cell_tmp (p := 2) (u := 3) (ty := 53) (by kernel_rfl), hp]
  simp [asAddr, hl, Result.andThen]

set_option maxHeartbeats 1000000 in
theorem first_ag (p : Nat) (v : Value) (m : List En) (k : Nat) (w : World) (h : Ag w p v m k) : Calls Try.prog 22 #[.pointer (some ⟨p, 0, none⟩)] w fun e w' =>
    e = .returned (.tuple #[(m.headD ⟨0, 0, 0⟩).val, .bool (!m.isEmpty)]) ∧ Kp [] w w' := by
  have hl := fun w' (h' : Ag w' p v m k) => len_ag p v m k w' h'
  have hA : Ag (w.alloc (.cells #[.int .i64 0, .int .i64 0, .int .i64 0] 53)) p v m k := h.keptN ((Kp.refl [] w).alloc _)
  have hl1 := len_ag p v m k _ hA
  clear hl
  cases m with
  | nil =>
    simp only [List.length_nil] at hl1
    clear hA h
    go_enter Try.func22, Try.ntmps22
    go_wp2_with (go_at_call 16; refine hl1.mono ?_; rintro e w' ⟨rfl, hw⟩; subst w')
    refine bodyPost_ret (results_first _ _ w.heap.size ⟨0, 0, 0⟩ rfl (heap_alloc_new w _)) rfl ?_
    exact ⟨rfl, (Kp.refl [] w).alloc _⟩
  | cons x l =>
    obtain ⟨d, h1, h2, h3⟩ := hA.ex
    obtain ⟨h0, hx⟩ := root_head h2 h3 h.srt
    have hc := h1.cell
    obtain ⟨ao, c, rfl⟩ := qs_val h1
    cases ao with
    | none =>
      exfalso
      rcases h1.own.2 with ⟨_, hz⟩ | ⟨g, cap, cur, hv, _⟩
      · omega
      · cases hv
    | some ga =>
      have hga : ∃ g, ga = ⟨g, 0, none⟩ := by
        rcases h1.own.2 with ⟨hv, _⟩ | ⟨g, cap, cur, hv, _⟩
        · cases hv
        · cases hv; exact ⟨g, rfl⟩
      obtain ⟨g, rfl⟩ := hga
      obtain ⟨_, ro, _⟩ := h1.ro
      obtain ⟨c0, c1, c2⟩ := ro.cell 0 h0
      rw [hx] at c0 c1 c2
      simp only [Nat.zero_mul, Nat.zero_add] at c0 c1 c2
      obtain ⟨n, hn⟩ : ∃ n, n = d.size := ⟨_, rfl⟩
      rw [← hn] at hc
      have hn0 : 0 < n := by omega
      have hlen : ((x :: l).length : Int) ≠ 0 := by simp; omega
      generalize (x :: l).length = q at hl1 hlen
      clear hA h1 h2 h3 hx ro h hn h0
      go_enter Try.func22, Try.ntmps22
      go_wp2_with (go_at_call 16; refine hl1.mono ?_; rintro e w' ⟨rfl, hw⟩; subst w')
      refine bodyPost_ret (results_first _ _ w.heap.size x rfl (heap_alloc_new w _)) rfl ?_
      exact ⟨rfl, (Kp.refl [] w).alloc _⟩

set_option maxHeartbeats 1000000 in
theorem next_ag (p : Nat) (v : Value) (m : List En) (k : Nat) (w : World) (h : Ag w p v m k) : Calls Try.prog 14 #[.pointer (some ⟨p, 0, none⟩)] w fun e w' =>
    e = .returned (.tuple #[.int .i64 (m.headD ⟨0, 0, 0⟩).at_, .int .i64 (m.headD ⟨0, 0, 0⟩).what, .bool (!m.isEmpty)]) ∧ Kp [] w w' := by
  have hf := first_ag p v m k w h
  generalize m.headD ⟨0, 0, 0⟩ = x at *
  unfold En.val at hf
  generalize (!m.isEmpty) = b at *
  clear h
  go_enter Try.func14, Try.ntmps14
  go_wp2_with (go_at_call 22; refine hf.mono ?_; rintro e w1 ⟨rfl, k1⟩)
  refine region_read Try.mixed (by kernel_rfl) ?_
  repeat (first | go_big_quiet_skip | (go_big_quiet_want; go_big_quiet_op; go_big_quiet_on))
  refine wpQuiet_nil ?_
  go_wp2_with fail
  go_ret3
  exact ⟨rfl, (k1.alloc _).drew⟩

/-- What is to be done first, if its time has come. -/
def dueP (m : List En) (now : Int) : Bool := !m.isEmpty && decide ((m.headD ⟨0, 0, 0⟩).at_ ≤ now)

set_option maxHeartbeats 1000000 in
theorem due_ag (p : Nat) (v : Value) (m : List En) (k : Nat) (now : Int) (w : World) (h : Ag w p v m k) (hk : k ≤ 100000) : Calls Try.prog 15 #[.pointer (some ⟨p, 0, none⟩), .int .i64 now] w fun e w' =>
    e = .returned (.tuple #[.int .i64 (if dueP m now then (m.headD ⟨0, 0, 0⟩).what else 0), .bool (dueP m now)]) ∧ ∃ v', Ag w' p v' (if dueP m now then m.tail else m) k ∧ Ste p w v w' v' := by
  have hf := first_ag p v m k w h
  cases m with
  | nil =>
    simp only [dueP, List.isEmpty_nil, Bool.not_true, Bool.false_and, List.headD_nil, Bool.false_eq_true, if_false] at hf ⊢
    unfold En.val at hf
    have H := hide h
    clear h
    go_enter Try.func15, Try.ntmps15
    go_wp2_with (go_at_call 22; refine hf.mono ?_; rintro e w1 ⟨rfl, k1⟩)
    go_ret2
    have k2 := k1.alloc (.cells #[.int .i64 0, .int .i64 0, .int .i64 0] 53)
    exact ⟨rfl, v, H.out.keptN k2, k2.mono (by simp), fun _ e => .inl e⟩
  | cons x l =>
    simp only [List.isEmpty_cons, Bool.not_false, List.headD_cons, dueP, Bool.true_and, List.tail_cons] at hf ⊢
    unfold En.val at hf
    by_cases hat : x.at_ ≤ now
    · simp only [hat, decide_true, if_true]
      have hgt : ¬ now < x.at_ := by omega
      obtain ⟨d, q1, q2, q3⟩ := h.ex
      have hlen : d.size = l.length + 1 := by have := q3.length_eq; simpa using this
      obtain ⟨mm, hmm⟩ : ∃ mm, mm = l.length := ⟨_, rfl⟩
      rw [← hmm] at hlen
      obtain ⟨ao, c, rfl⟩ := qs_val q1
      obtain ⟨g, rfl⟩ : ∃ g, ao = some ⟨g, 0, none⟩ := by
        rcases q1.own.2 with ⟨hv, hz⟩ | ⟨g, cap, cur, hv, _⟩
        · omega
        · cases hv; exact ⟨g, rfl⟩
      have hcnt := h.cnt
      have hpl := q1.lt
      have hgl := (q1.own.lt g rfl).2
      rw [hlen] at q1 ⊢
      have PL := hide (pop_left hlen q2 q3 h.srt)
      have POP : Hid (∀ w', Kp [] w w' → Calls Try.prog 23 #[.iface 51 (.pointer (some ⟨p, 0, none⟩))] w' fun x w'' => (∃ y, x = .returned y) ∧ Qs w'' p (.slice (some ⟨g, 0, none⟩) mm c) (siftDown gtE mm 0 0 (swp d 0 mm)).pop (k : Int) ∧ Ste p w' (.slice (some ⟨g, 0, none⟩) (mm + 1) c) w'' (.slice (some ⟨g, 0, none⟩) mm c)) := fun w' kk =>
        hpop_any p g c mm d k w' (q1.keptN kk) (by simp at hcnt; omega)
      have SR := hide (And.intro (List.Pairwise.of_cons h.srt) (And.intro (fun e (he : e ∈ l) => h.num e (by simp [he])) (show l.length ≤ k by simp at hcnt; omega)))
      clear h q1 q2 q3 hlen hmm hcnt
      go_enter Try.func15, Try.ntmps15
      go_wp2_with (first
        | (go_at_call 22; refine hf.mono ?_; rintro e w1 ⟨rfl, k1⟩; clear hf; have k2 := k1.alloc (.cells #[.int .i64 x.at_, .int .i64 x.num, .int .i64 x.what] 53); have hp := POP.out _ k2; obtain ⟨b0, b1, b2⟩ := box3_cells w1 x)
        | (go_at_call 23; refine hp.mono ?_; rintro y w2 ⟨⟨y', rfl⟩, Q2, T2⟩; clear hp; have b3 := T2.1.cell b2 (by have := k1.size; simp [Value.ownBlock]; omega)))
      go_ret2
      refine ⟨rfl, _, ⟨⟨_, Q2, ?_, PL.out.2.2⟩, SR.out.1, SR.out.2.1, SR.out.2.2⟩, Ste.trans ⟨k2.mono (by simp), fun _ e => .inl e⟩ T2⟩
      rw [PL.out.2.1]
      exact PL.out.1
    · simp only [hat, decide_false, Bool.false_eq_true, if_false]
      have hgt : now < x.at_ := by omega
      have H := hide h
      clear h
      go_enter Try.func15, Try.ntmps15
      go_wp2_with (go_at_call 22; refine hf.mono ?_; rintro e w1 ⟨rfl, k1⟩)
      go_ret2
      have k2 := k1.alloc (.cells #[.int .i64 x.at_, .int .i64 x.num, .int .i64 x.what] 53)
      exact ⟨rfl, v, H.out.keptN k2, k2.mono (by simp), fun _ e => .inl e⟩

theorem push_toList (d : Array En) (e : En) : (d.push e).toList = d.toList ++ [e] := by simp
theorem qs_bump {w : World} {p : Nat} {v : Value} {d : Array En} {k : Nat} (h : Qs w p v d (k : Int)) : Qs (w.setCell ⟨p, 1, none⟩ (.int .i64 ((k : Int) + 1))) p v d ((k + 1 : Nat) : Int) :=
  ⟨by rw [Int.natCast_add]; exact setCell_two1 h.blk, ownsRow_setCell_below h.own (a := ⟨p, 1, none⟩) (by simp) _⟩

set_option maxHeartbeats 1000000 in
theorem add_ag (p : Nat) (v : Value) (m : List En) (k : Nat) (t x : Int) (w : World) (h : Ag w p v m k) (hk : k ≤ 10000) : Calls Try.prog 12 #[.pointer (some ⟨p, 0, none⟩), .int .i64 t, .int .i64 x] w fun e w' =>
    e = .returned (.tuple #[]) ∧ ∃ v', Ag w' p v' (insE m ⟨t, k, x⟩) (k + 1) ∧ Ste p w v w' v' := by
  obtain ⟨d, q1, q2, q3⟩ := h.ex
  have hlen : d.size = m.length := by have := q3.length_eq; simpa using this
  have hcnt := h.cnt
  have c1 := q1.cell1
  have hsz : (d.push ⟨t, k, x⟩).size = d.size + 1 := by simp
  have UPS : Hid (Hp (upP (d.push ⟨t, k, x⟩) d.size) (upP (d.push ⟨t, k, x⟩) d.size).size ∧ (upP (d.push ⟨t, k, x⟩) d.size).toList.Perm (insE m ⟨t, k, x⟩)) := by
    have hh : Hp (d.push ⟨t, k, x⟩) d.size := fun j h1 h2 => by
      have e1 : (d.push ⟨t, k, x⟩)[j]! = d[j]! := by
        rw [getElem!_pos _ j (by omega), getElem!_pos d j h2, Array.getElem_push_lt h2]
      have e2 : (d.push ⟨t, k, x⟩)[(j - 1) / 2]! = d[(j - 1) / 2]! := by
        rw [getElem!_pos _ ((j - 1) / 2) (by omega), getElem!_pos d ((j - 1) / 2) (by omega), Array.getElem_push_lt (by omega)]
      rw [e1, e2]
      exact q2 j h1 h2
    obtain ⟨r1, r2⟩ := up_push hh hsz.symm
    have r3 : (upP (d.push ⟨t, k, x⟩) d.size).size = d.size + 1 := r2.1.trans hsz
    rw [← hsz] at r2
    refine ⟨by rw [r3]; exact r1, (perm_all r2).trans ?_⟩
    rw [push_toList]
    exact (List.perm_append_singleton _ _).trans ((List.Perm.cons _ q3).trans (insE_perm m _).symm)
  have PUSH : Hid (∀ w', Kp [] w w' → Calls Try.prog 21 #[.iface 51 (.pointer (some ⟨p, 0, none⟩)), .iface 53 (.agg #[.int .i64 t, .int .i64 k, .int .i64 x])] w' fun x' w'' => x' = .returned (.tuple #[]) ∧ ∃ v', Qs w'' p v' (upP (d.push ⟨t, k, x⟩) d.size) k ∧ Ste p w' v w'' v') := fun w' kk =>
    hpush_any p v d k ⟨t, k, x⟩ w' (q1.keptN kk) (by omega)
  have SR := hide (And.intro (insE_srt (e := ⟨t, k, x⟩) h.srt h.num) (And.intro h.num h.cnt))
  have hp := PUSH.out w.drew (Kp.refl [] w).drew
  clear h q1 q2 q3 hlen hcnt hsz
  go_enter Try.func12, Try.ntmps12
  go_wp2_with fail
  refine region_tail 12 Try.mixed (by kernel_rfl) ?_
  simp only [List.take_succ_cons, List.take_zero, List.drop_succ_cons, List.drop_zero]
  repeat (first | go_big_quiet_skip | (go_big_quiet_want; go_big_quiet_op; go_big_quiet_on))
  refine wpQuiet_nil ?_
  go_wp2_with (go_at_call 21; refine hp.mono ?_; rintro e w1 ⟨rfl, v', Q1, T1⟩; have d1 := Q1.cell1; have f1 := Q1.free 1)
  go_end0
  refine ⟨rfl, v', ⟨⟨_, qs_bump Q1, UPS.out.1, UPS.out.2⟩, SR.out.1, fun e he => ?_, ?_⟩, ?_⟩
  · have := (insE_perm m ⟨t, k, x⟩).mem_iff.1 he
    rcases List.mem_cons.1 this with rfl | h1
    · show (k : Int) < ((k + 1 : Nat) : Int); omega
    · have := SR.out.2.1 e h1; push_cast; omega
  · rw [(insE_perm m _).length_eq]; have := SR.out.2.2; simp; omega
  · refine Ste.trans ⟨((Kp.refl [] w).drew).mono (by simp), fun _ e => .inl e⟩ (T1.trans ⟨?_, fun _ e => .inl e⟩)
    exact (Kp.refl _ w1).setCell (p := ⟨p, 1, none⟩) (.inl (by simp)) _
end Go.Proofs.Ytlmbheobaiibeaa

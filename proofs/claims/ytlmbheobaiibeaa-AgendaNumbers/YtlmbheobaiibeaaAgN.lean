/-
  The agenda's Cancel and All.
-/
import Derived.Test.YtlmbheobaiibeaaAgM
namespace Go.Proofs.Ytlmbheobaiibeaa
open Go.RowKit Go.Sort Go.Lib

theorem qs_valn {w : World} {p : Nat} {v : Value} {d : Array En} {k : Int} (h : Qs w p v d k) : ∃ ao n c, v = .slice ao n c ∧ n = d.size := by
  obtain ⟨ao, c, h⟩ := qs_val h
  exact ⟨ao, _, c, h, rfl⟩
theorem init_nil (p : Nat) (w : World) (hc : w.cell? ⟨p, 0, none⟩ = some (.slice none 0 0)) :
    Calls Try.prog 26 #[.iface 51 (.pointer (some ⟨p, 0, none⟩))] w fun e w' => e = .returned (.tuple #[]) ∧ w' = w := by
  have mN := pq_len hc
  go_enter Try.func26, Try.ntmps26
  go_wp2_with (go_at_call 66; refine (len_any _ _ _ _).mono ?_; rintro e w' ⟨rfl, hw⟩; subst w')
  clear mN hc
  go_loopg [3] 0 (fun kx s3 wr => s3 = .int .i64 (-1) ∧ wr = w)
  case atStart => exact ⟨rfl, rfl⟩
  case round =>
    obtain ⟨rfl, rfl⟩ := hrel
    go_wp2
    go_end0
    exact ⟨rfl, rfl⟩
theorem init_qs (p : Nat) (v : Value) (d : Array En) (k : Int) (w : World) (h : Qs w p v d k) (hn : d.size ≤ 1000000) :
    Calls Try.prog 26 #[.iface 51 (.pointer (some ⟨p, 0, none⟩))] w fun e w' => e = .returned (.tuple #[]) ∧ ∃ d', Qs w' p v d' k ∧ Hp d' d'.size ∧ d'.toList.Perm d.toList ∧ Ste p w v w' v := by
  rcases h.own.2 with ⟨rfl, h0⟩ | ⟨g, cap, cur, rfl, _⟩
  · refine (init_nil p w h.cell).mono fun e w' ⟨he, hw⟩ => ⟨he, d, ?_, fun j h1 h2 => by omega, List.Perm.refl _, ?_⟩
    · rw [hw]; exact h
    · rw [hw]; exact Ste.refl _ _ _
  · obtain ⟨hs, ro, hpg⟩ := h.ro
    refine (init_st p g cap d.size d w h.cell ro (by omega) hn).mono fun e w' ⟨he, s⟩ => ?_
    obtain ⟨Q, T⟩ := h.of_st s
    obtain ⟨b1, b2⟩ := build_heap d
    exact ⟨he, _, Q, by rw [b2.1]; exact b1, perm_all b2, T⟩

set_option maxHeartbeats 1000000 in
theorem cancel_ag (p : Nat) (v : Value) (m : List En) (k : Nat) (x : Int) (w : World) (h : Ag w p v m k) (hk : k ≤ 10000) : Calls Try.prog 17 #[.pointer (some ⟨p, 0, none⟩), .int .i64 x] w fun e w' =>
    e = .returned (.int .i64 ((m.length : Int) - ((m.filter (keepW x)).length : Int))) ∧ ∃ v', Ag w' p v' (m.filter (keepW x)) k ∧ Ste p w v w' v' := by
  obtain ⟨d, q1, q2, q3⟩ := h.ex
  have hlen : d.size = m.length := by have := q3.length_eq; simpa using this
  have hcnt := h.cnt
  have hpl := q1.lt
  have K0 : Kp [] w (w.alloc (.cells #[.int .i64 x] 3)) := (Kp.refl [] w).alloc _
  have q0 := q1.keptN K0
  have hc := q0.cell
  have hx : (w.alloc (.cells #[.int .i64 x] 3)).cell? ⟨w.heap.size, 0, none⟩ = some (.int .i64 x) := by rw [World.cell?_alloc_at _ _ _ _ rfl]; rfl
  have hbv : v.ownBlock ≠ some w.heap.size := fun e => by have := (q1.own.lt _ e).2; omega
  have hD := deleteFunc_any p w.heap.size v d k x _ q0 hx hbv (by omega)
  have hfl : (d.toList.filter (keepW x)).length = (m.filter (keepW x)).length := (q3.filter _).length_eq
  have SR := hide (And.intro (srt_filter h.srt (keepW x)) (And.intro (fun e (he : e ∈ m.filter (keepW x)) => h.num e (List.mem_filter.1 he).1) (And.intro (show (m.filter (keepW x)).length ≤ k from Nat.le_trans (List.length_filter_le _ _) h.cnt) (q3.filter (keepW x)))))
  have hne := q1.ne
  obtain ⟨ao, c, hv⟩ := qs_val q1
  have GO : Hid (∀ w2 v2, w2.ownsRow (p + 1) 53 3 v2 (d.toList.filter (keepW x)).length (flat (d.toList.filter (keepW x)).toArray) → Kp v.ownBlock.toList (w.alloc (.cells #[.int .i64 x] 3)) w2 → v2.ownBlock = v.ownBlock →
      Qs (w2.setCell ⟨p, 0, none⟩ v2) p v2 (d.toList.filter (keepW x)).toArray k ∧ Ste p w v (w2.setCell ⟨p, 0, none⟩ v2) v2 ∧ w2.cell? ⟨p, 0, none⟩ = some v ∧ w2.frozen? ⟨p, 0, none⟩ = false) := fun w2 v2 ho kk hb => by
    have hb2 : w2.heap[p]? = some (.cells #[v, .int .i64 k] 49 (0, 0)) := kk.heap q0.blk (by simp only [Option.mem_toList]; exact fun e => hne e)
    refine ⟨⟨setCell_two hb2, ?_⟩, ⟨?_, fun i hi => .inl (hb ▸ hi)⟩, ?_, frozen_of_row w2 p 0 _ _ hb2⟩
    · rw [List.size_toArray]
      exact ownsRow_setCell_below ho (a := ⟨p, 0, none⟩) (by simp) _
    · exact ((K0.mono (by simp)).trans (kk.mono (by intro i hi; simp only [Option.mem_toList] at hi; simp [hi]))).setCell (p := ⟨p, 0, none⟩) (.inl (by simp)) _
    · rw [cell_of_row w2 p 0 _ _ (0, 0) hb2]; rfl
  have INI : Hid (∀ w3 v3, Qs w3 p v3 (d.toList.filter (keepW x)).toArray k → Calls Try.prog 26 #[.iface 51 (.pointer (some ⟨p, 0, none⟩))] w3 fun e w' => e = .returned (.tuple #[]) ∧ ∃ d', Qs w' p v3 d' k ∧ Hp d' d'.size ∧ d'.toList.Perm (d.toList.filter (keepW x)) ∧ Ste p w3 v3 w' v3) := fun w3 v3 q => by
    have := init_qs p v3 _ k w3 q (by simp only [List.size_toArray]; have := List.length_filter_le (keepW x) d.toList; simp at this; omega)
    simpa using this
  have hcm : m.length ≤ 10000 := by omega
  rw [hv, hlen] at hc
  clear h q1 q2 q3 q0 hx hbv hcnt hne hpl
  generalize m.length = ml at *
  subst hv
  have hfb : (d.toList.filter (keepW x)).toArray.size ≤ ml := by rw [List.size_toArray, ← hlen]; have := List.length_filter_le (keepW x) d.toList; simpa using this
  rw [hlen] at hD GO ⊢
  go_enter Try.func17, Try.ntmps17
  go_wp2_with (first
    | (go_at_call 24; refine hD.mono ?_; rintro e w2 ⟨v2, rfl, o2, k2, b2⟩; obtain ⟨Q2, T2, c2, f2⟩ := GO.out w2 v2 o2 k2 b2; obtain ⟨a2, n2, cc2, rfl, hn2⟩ := qs_valn Q2; have hI := INI.out _ _ Q2; have hn2' : n2 ≤ ml := (by omega); clear Q2 o2 k2 b2 hn2)
    | (go_at_call 26; refine hI.mono ?_; rintro e w4 ⟨rfl, d', Q4, H4, P4, T4⟩; clear hI; have c4 := Q4.cell; have l4 : n2 = (m.filter (keepW x)).length := (by obtain ⟨a4, k4, hv4⟩ := qs_val Q4; injection hv4 with _ e _; rw [e, ← hfl, ← P4.length_eq]; simp); have L4 := hide l4; clear l4))
  go_ret
  refine ⟨by rw [L4.out]; rfl, _, ⟨⟨d', Q4, H4, P4.trans SR.out.2.2.2⟩, SR.out.1, SR.out.2.1, SR.out.2.2.1⟩, T2.trans T4⟩

theorem sorted_pairwise {d d' : Array En} (h : Sorted d d') : d'.toList.Pairwise (fun a b => ltE b a = false) := by
  have hs : d'.size = d.size := by have := h.perm.length_eq; simpa using this
  refine List.pairwise_iff_getElem.2 (fun i j hi hj hij => ?_)
  have hi' : i < d'.size := by simpa using hi
  have hj' : j < d'.size := by simpa using hj
  have := h.sorted i j hij (by omega)
  rw [getElem!_pos d' i hi', getElem!_pos d' j hj'] at this
  simpa using this

set_option maxHeartbeats 4000000 in
set_option maxRecDepth 100000 in
theorem all_ag (p : Nat) (v : Value) (m : List En) (k : Nat) (w : World) (h : Ag w p v m k) (hk : k ≤ 200) : Calls Try.prog 19 #[.pointer (some ⟨p, 0, none⟩)] w fun e w' =>
    ∃ v', e = .returned v' ∧ IntsA w' v' (m.map En.what) ∧ Kp [] w w' := by
  obtain ⟨i0, hi0, hz0, hz1, hz2⟩ := info_parts Try.infoInt
  obtain ⟨d, q1, q2, q3⟩ := h.ex
  have hlen : d.size = m.length := by have := q3.length_eq; simpa using this
  have hcnt := h.cnt
  have hc := q1.cell
  have hC := clone_any p v d k w q1 (by omega)
  obtain ⟨n, hn⟩ : ∃ n, n = m.length := ⟨_, rfl⟩
  have hn2 : n ≤ 200 := by omega
  have SO : Hid (∀ d', Sorted d d' → d'.toList = m) := fun d' hd => srt_unique h.srt (sorted_pairwise hd) (hd.perm.trans q3)
  have HN := hide hn
  have HD := hide (hlen.trans hn.symm)
  rw [show d.size = n by omega] at hC
  clear h q1 q2 q3 hlen hcnt hn
  have hC' : Calls Try.prog 27 #[v] w fun r w' => (∃ v', r = .returned v' ∧ v' = .slice none 0 0 ∧ n = 0 ∧ Kp [] w w') ∨ (∃ g cap, r = .returned (.slice (some ⟨g, 0, none⟩) n cap) ∧ Ro g cap n w' d ∧ Kp [] w w' ∧ w.heap.size ≤ g) := by
    refine hC.mono fun r w' ⟨v', hr, ho, kk, hb⟩ => ?_
    rcases ho.2 with ⟨rfl, hz⟩ | ⟨g, cap, cur, rfl, _⟩
    · exact .inl ⟨_, hr, rfl, hz, kk⟩
    · exact .inr ⟨g, cap, hr, ⟨HD.out, ho⟩, kk, hb g rfl⟩
  clear hC
  go_enter Try.func19, Try.ntmps19
  go_wp2_with (go_at_call 27; refine hC'.mono ?_; rintro r w1 hr; rcases hr with ⟨v', rfl, rfl, hn0, k1⟩ | ⟨g, cap, rfl, r1, k1, hg⟩)
  · clear hC' hc
    go_wp2_with (first
      | (go_at_call 28; refine (sort_nil _).mono ?_; rintro e w' ⟨rfl, hw⟩; subst w')
      | (at_make; refine wpList_make_own _ rfl _ _ 27 rfl 0 3 i0 _ 1 Try.underlying27 hi0 hz0 hz1 _ _ _ 0 rfl rfl (by rfl) (by rw [hz2]; omega) (by unfold maxLen; omega) (Nat.zero_le _) ?_; intro w3 o3 g3))
    have K3 := hide (k1.grown g3 (fun i hi => by cases hi))
    have O3 := hide o3
    clear o3 g3 k1
    go_loopg [4, 22] 0 (fun kx s4 s22 wr => s4 = .slice (some ⟨w1.heap.size, 0, none⟩) 0 0 ∧ s22 = .int .i64 0 ∧ wr = w3)
    case atStart => exact ⟨rfl, rfl, rfl⟩
    case round =>
      obtain ⟨rfl, rfl, rfl⟩ := hrel
      go_wp2
      go_ret
      have hm : m = [] := List.eq_nil_of_length_eq_zero (by rw [← HN.out]; exact hn0)
      refine ⟨_, rfl, ?_, K3.out⟩
      rw [hm]
      exact ints_of_owns (l := []) O3.out (by simp [maxLen])
  · clear hC' hc
    have hso := sort_any g cap n d w1 r1 (by omega)
    go_wp2_with (first
      | (go_at_call 28; refine hso.mono ?_; rintro e w2 ⟨rfl, d', sd, S2⟩)
      | (at_make; refine wpList_make_own _ rfl _ _ 27 rfl 0 3 i0 _ 1 Try.underlying27 hi0 hz0 hz1 _ _ _ n rfl rfl (by rfl) (by rw [hz2]; omega) (by unfold maxLen; omega) (Nat.zero_le _) ?_; intro w3 o3 g3))
    have hgt2 : g < w2.heap.size := S2.ro.lt
    have K3 : Kp [] w w3 := ((k1.then S2.kp (fun i hi => by simp at hi; subst hi; exact .inr hg))).grown g3 (fun i hi => by cases hi)
    have R3 : Ro g cap n w3 d' := S2.ro.kept ((Kp.refl [] w2).grown g3 (fun i hi => by cases hi))
    have hwt : w.heap.size ≤ w2.heap.size := Nat.le_trans k1.size S2.kp.size
    have HM := hide (SO.out d' sd)
    obtain ⟨gt, hgt⟩ : ∃ gt, gt = w2.heap.size := ⟨_, rfl⟩
    rw [← hgt] at o3 hgt2 hwt ⊢
    clear g3 S2 sd hso r1 k1 hgt SO HD
    have INV : Hid (w3.ownsRow 0 3 1 (.slice (some ⟨gt, 0, none⟩) 0 n) 0 ((m.take 0).map fun e => Value.int .i64 e.what) ∧ Kp [] w w3 ∧ Ro g cap n w3 d') := ⟨o3, K3, R3⟩
    clear o3 K3 R3
    go_loopg [4, 22] n (fun kx s4 s22 wr => ∃ i : Nat, s4 = .slice (some ⟨gt, 0, none⟩) i n ∧ s22 = .int .i64 i ∧ i ≤ n ∧ n - i ≤ kx ∧ Hid (wr.ownsRow 0 3 1 (.slice (some ⟨gt, 0, none⟩) i n) i ((m.take i).map fun e => Value.int .i64 e.what) ∧ Kp [] w wr ∧ Ro g cap n wr d'))
    case atStart => exact ⟨0, rfl, rfl, Nat.zero_le _, by omega, INV⟩
    case round =>
      obtain ⟨i, rfl, rfl, hi, hkx, HI⟩ := hrel
      clear INV
      by_cases hin : i < n
      · have hiz : (i : Int) < (n : Int) := by omega
        obtain ⟨c0, c1, c2⟩ := HI.out.2.2.cell i hin
        obtain ⟨e, he⟩ : ∃ e, e = d'[i]! := ⟨_, rfl⟩
        rw [← he] at c0 c1 c2
        have HE := hide he
        clear he
        have K4 : Kp [] wr ((wr.alloc (.cells #[.int .i64 e.at_, .int .i64 e.num, .int .i64 e.what] 53)).alloc (.cells #[.int .i64 e.what] 3)) := ((Kp.refl [] wr).alloc _).alloc _
        have o4 := K4.owns HI.out.1 (by simp)
        have news : ∀ j u, [Value.int .i64 e.what][j]? = some u → ((wr.alloc (.cells #[.int .i64 e.at_, .int .i64 e.num, .int .i64 e.what] 53)).alloc (.cells #[.int .i64 e.what] 3)).cell? ((⟨wr.heap.size + 1, 0, none⟩ : Addr).add j) = some u := by
          have := cell_one_new (wr.alloc (.cells #[.int .i64 e.at_, .int .i64 e.num, .int .i64 e.what] 53)) (.int .i64 e.what) 3
          simpa using this
        have HK4 := hide K4
        clear K4
        go_wp2_with (at_builtin; refine wpList_append_fits _ rfl (.tmp 26) (.tmp 29) 27 rfl 0 3 i0 1 Try.underlying27 hi0 hz1 gt i n _ rfl o4 ⟨wr.heap.size + 1, 0, none⟩ 1 1 [.int .i64 e.what] rfl rfl news (by simp [Value.oneCell']) (by omega) ?_; intro w5 o5 g5)
        go_roundg (n - (i + 1))
        case measure => omega
        case rel =>
          have K5 : Kp [gt] wr w5 := (HK4.out.mono (by simp)).grown g5 (fun j hj => .inl (by simp at hj; simp [hj]))
          have him : i < m.length := by rw [← HN.out]; exact hin
          have hw : e = m[i] := by
            rw [HE.out]
            have h1 : i < d'.size := by rw [HI.out.2.2.size]; exact hin
            rw [getElem!_pos d' i h1, ← Array.getElem_toList h1]
            simp only [HM.out]
          refine ⟨i + 1, rfl, by go_num, by omega, Nat.le_refl _, ?_, HI.out.2.1.then K5 (fun j hj => by simp at hj; subst hj; exact .inr hwt), HI.out.2.2.keptS K5 (by simp; omega)⟩
          rw [List.take_add_one, List.map_append]
          simp only [List.getElem?_eq_getElem him, Option.toList_some, List.map_cons, List.map_nil, ← hw]
          exact o5
      · have hiz : ¬ (i : Int) < (n : Int) := by omega
        have hni : i = n := by omega
        have FIN : Hid (IntsA wr (.slice (some ⟨gt, 0, none⟩) i n) (m.map En.what)) := by
          have hl : (m.map En.what).length = i := by rw [List.length_map, ← HN.out, hni]
          have o := HI.out.1
          rw [List.take_of_length_le (by rw [← HN.out, hni]; exact Nat.le_refl _)] at o
          refine ints_of_owns (base := 0) ?_ (by rw [hl]; unfold maxLen; omega)
          rw [hl, List.map_map]
          exact o
        clear hni
        go_wp2
        go_ret
        exact ⟨_, rfl, FIN.out, HI.out.2.1⟩
end Go.Proofs.Ytlmbheobaiibeaa

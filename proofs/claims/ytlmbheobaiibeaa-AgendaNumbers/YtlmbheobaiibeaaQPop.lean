/-
  (*queue).Pop; container/heap's Push and Pop over an agenda's queue.
-/
import Derived.Test.YtlmbheobaiibeaaQPush
namespace Go.Proofs.Ytlmbheobaiibeaa
open Go.RowKit Go.Sort Go.Lib

theorem flat_pop (d : Array En) (m : Nat) (hm : d.size = m + 1) : flat d = flat d.pop ++ (d[m]!).cells := by
  have e : d = d.pop.push d[m]! := by
    apply Array.ext
    · simp; omega
    · intro i h1 h2
      by_cases hi : i < m
      · rw [Array.getElem_push_lt (by simp; omega)]; simp
      · have : i = m := by omega
        subst this
        simp [Array.getElem_push, hm]
  conv => lhs; rw [e]
  exact flat_push _ _
theorem qs_pop {w : World} {p g cap m : Nat} {d : Array En} {k : Int} (h : Qs w p (.slice (some ⟨g, 0, none⟩) (m + 1) cap) d k) : Qs (w.setCell ⟨p, 0, none⟩ (.slice (some ⟨g, 0, none⟩) m cap)) p (.slice (some ⟨g, 0, none⟩) m cap) d.pop k := by
  obtain ⟨hn, _, hpg⟩ := h.ro
  refine ⟨setCell_two h.blk, ?_⟩
  have h2 := h.own
  rw [hn, flat_pop d m hn] at h2
  have hm : d.pop.size = m := by simp [hn]
  have h3 := ownsRow_pop (by rw [flat_length, hm]) h2
  have h4 := ownsRow_setCell_below h3 (a := ⟨p, 0, none⟩) (by simp) (.slice (some ⟨g, 0, none⟩) m cap)
  rw [hm]
  exact h4

set_option maxHeartbeats 1000000 in
theorem qpop_any (p g cap m : Nat) (d : Array En) (k : Int) (w : World) (h : Qs w p (.slice (some ⟨g, 0, none⟩) (m + 1) cap) d k) (hb : m ≤ 1000000) :
    Calls Try.prog 69 #[.pointer (some ⟨p, 0, none⟩)] w fun x w' => (∃ y, x = .returned y) ∧ Qs w' p (.slice (some ⟨g, 0, none⟩) m cap) d.pop k ∧ Kp [p] w w' := by
  have hc := h.cell
  have hf := h.free 0
  obtain ⟨hn, ro, hpg⟩ := h.ro
  obtain ⟨c0, c1, c2⟩ := ro.cell m (by omega)
  have hcap := ro.cap_le
  have hcm : (m : Int) ≤ (cap : Int) := by omega
  have hc0 : cap ≠ 0 := by omega
  have hlt := h.lt
  have H := hide h
  generalize d[m]! = x at c0 c1 c2
  clear h hn ro
  go_enter Try.func69, Try.ntmps69
  go_wp2
  go_ret
  refine ⟨⟨_, rfl⟩, ?_, ?_⟩
  · exact (qs_pop H.out).keptN ((Kp.refl [] _).alloc _)
  · exact ((Kp.refl [p] w).setCell (p := ⟨p, 0, none⟩) (.inl (by simp)) _).alloc _

set_option maxHeartbeats 1000000 in
set_option maxRecDepth 100000 in
theorem hpush_any (p : Nat) (v : Value) (d : Array En) (k : Int) (e : En) (w : World) (h : Qs w p v d k) (hb : d.size ≤ 100000) :
    Calls Try.prog 21 #[.iface 51 (.pointer (some ⟨p, 0, none⟩)), .iface 53 (.agg #[.int .i64 e.at_, .int .i64 e.num, .int .i64 e.what])] w fun x w' => x = .returned (.tuple #[]) ∧ ∃ v', Qs w' p v' (upP (d.push e) d.size) k ∧ Ste p w v w' v' := by
  have mP := fun w => pq_push (a := ⟨p, 0, none⟩) w
  have hp := qpush_any p v d k e w h (by omega)
  have hsz : (d.push e).size = d.size + 1 := by simp
  have UP : Hid (∀ (g cap : Nat) (w' : World), Qs w' p (.slice (some ⟨g, 0, none⟩) (d.size + 1) cap) (d.push e) k → Calls Try.prog 29 #[.iface 51 (.pointer (some ⟨p, 0, none⟩)), .int .i64 (d.size : Nat)] w' fun e' w'' => e' = .returned (.tuple #[]) ∧ St g cap (d.size + 1) w' w'' (upP (d.push e) d.size)) := fun g cap w' q => by
    obtain ⟨_, ro, hpg⟩ := q.ro
    exact up_st p g cap (d.size + 1) d.size (d.push e) w' q.cell ro (by omega) (by omega) (by omega)
  clear h hsz
  generalize d.size = n at *
  generalize upP (d.push e) n = du at *
  go_enter Try.func21, Try.ntmps21
  go_wp2_with (first
    | (go_at_call 70; refine hp.mono ?_; rintro x w1 ⟨rfl, g, cap, Q1, T1⟩; clear hp mP; have mN := pq_len Q1.cell; have hu := UP.out g cap w1 Q1; have HQ := hide Q1; clear Q1)
    | (go_at_call 66; refine (len_any _ _ _ _).mono ?_; rintro x w' ⟨rfl, hw⟩; subst w'; clear mN)
    | (go_at_call 29; refine hu.mono ?_; rintro x w2 ⟨rfl, S2⟩; clear hu))
  go_end0
  obtain ⟨Q2, T2⟩ := HQ.out.of_st S2
  exact ⟨rfl, _, Q2, T1.trans T2⟩

set_option maxHeartbeats 1000000 in
set_option maxRecDepth 100000 in
theorem hpop_any (p g cap m : Nat) (d : Array En) (k : Int) (w : World) (h : Qs w p (.slice (some ⟨g, 0, none⟩) (m + 1) cap) d k) (hb : m ≤ 100000) :
    Calls Try.prog 23 #[.iface 51 (.pointer (some ⟨p, 0, none⟩))] w fun x w' => (∃ y, x = .returned y) ∧ Qs w' p (.slice (some ⟨g, 0, none⟩) m cap) (siftDown gtE m 0 0 (swp d 0 m)).pop k ∧ Ste p w (.slice (some ⟨g, 0, none⟩) (m + 1) cap) w' (.slice (some ⟨g, 0, none⟩) m cap) := by
  have mN := pq_len h.cell
  obtain ⟨hn, ro, hpg⟩ := h.ro
  have hs := swap_st (St.start ro) 0 m (by omega) (by omega)
  have mS := pq_swap h.cell
  have CE : Hid (∀ {w' : World} {d' : Array En}, St g cap (m + 1) w w' d' → w'.cell? ⟨p, 0, none⟩ = some (.slice (some ⟨g, 0, none⟩) (m + 1) cap)) := fun s => s.kp.cell h.cell (by simp; omega)
  have DN : Hid (∀ {w' : World}, St g cap (m + 1) w w' (swp d 0 m) → Calls Try.prog 30 #[.iface 51 (.pointer (some ⟨p, 0, none⟩)), .int .i64 (0 : Nat), .int .i64 (m : Nat)] w' fun e w'' => (∃ b, e = .returned (.bool b)) ∧ St g cap (m + 1) w' w'' (siftDown gtE m 0 0 (swp d 0 m))) := fun {w'} s =>
    down_st p g cap (m + 1) 0 m (swp d 0 m) w' (CE.out s) s.ro (by omega) (Nat.zero_le _) (by omega) (by omega)
  have mP := fun w => pq_pop (a := ⟨p, 0, none⟩) w
  have PP : Hid (∀ {w' : World} {d' : Array En}, St g cap (m + 1) w w' d' → Calls Try.prog 69 #[.pointer (some ⟨p, 0, none⟩)] w' fun x w'' => (∃ y, x = .returned y) ∧ Qs w'' p (.slice (some ⟨g, 0, none⟩) m cap) d'.pop k ∧ Kp [p] w' w'') := fun {w' d'} s =>
    qpop_any p g cap m d' k w' (h.of_st s).1 (by omega)
  have TT : Hid (∀ {w' : World} {d' : Array En}, St g cap (m + 1) w w' d' → Ste p w (.slice (some ⟨g, 0, none⟩) (m + 1) cap) w' (.slice (some ⟨g, 0, none⟩) (m + 1) cap)) := fun s => (h.of_st s).2
  clear h ro hn
  generalize siftDown gtE m 0 0 (swp d 0 m) = ds at *
  generalize swp d 0 m = dw at *
  rw [show ((0 : Nat) : Int) = 0 from rfl] at hs
  go_enter Try.func23, Try.ntmps23
  go_wp2_with (first
    | (go_at_call 66; refine (len_any _ _ _ _).mono ?_; rintro x w' ⟨rfl, hw⟩; subst w'; clear mN)
    | (go_at_call 68; refine hs.mono ?_; rintro x w1 ⟨rfl, S1⟩; clear hs mS; have hd := DN.out S1; rw [show ((0 : Nat) : Int) = 0 from rfl] at hd)
    | (go_at_call 30; refine hd.mono ?_; rintro x w2 ⟨⟨b, rfl⟩, S2'⟩; clear hd; have S2 := S1.then S2'; have hp := PP.out S2)
    | (go_at_call 69; refine hp.mono ?_; rintro x w3 ⟨⟨y, rfl⟩, Q3, k3⟩; clear hp mP))
  go_ret
  refine ⟨⟨_, rfl⟩, Q3, (TT.out S2).trans ⟨k3.mono (by simp), fun _ e => .inl e⟩⟩
end Go.Proofs.Ytlmbheobaiibeaa

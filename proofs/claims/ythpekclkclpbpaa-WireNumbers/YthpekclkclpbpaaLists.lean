/-
  Slices of slices of bytes: how they are read; the contracts of Few, Each and allTaken over this seat's program.
-/
import Derived.Test.YthpekclkclpbpaaArgs
namespace Go.Proofs.Ythpekclkclpbpaa
open Go.ChangeShapes Go.WideShapes Go.ChangeAt Go.RowKit
open Go.Deep

/-- v is a slice of slices: each with its value and its bytes. -/
def Lists (w : World) (v : Value) (l : List (Value × List Int)) : Prop :=
  ∃ ao c, v = .slice ao l.length c ∧ l.length ≤ 9223372036854775807 ∧ ∀ i (h : i < l.length), ∃ b off, ao = some ⟨b, off, none⟩ ∧ w.cell? ⟨b, off + i, none⟩ = some l[i].1 ∧ Sl w l[i].1 l[i].2 ∧ Bs l[i].2
theorem Lists.kept {w w' : World} {v : Value} {l : List (Value × List Int)} (h : Lists w v l) (k : Kp [] w w') : Lists w' v l := by
  obtain ⟨ao, c, rfl, h1, h2⟩ := h
  refine ⟨ao, c, rfl, h1, fun i hi => ?_⟩
  obtain ⟨b, off, e, h3, h4, h5⟩ := h2 i hi
  exact ⟨b, off, e, k.cell h3 (by simp), h4.kept k (by simp), h5⟩

section
variable {H : Type} {enc : TypeId × Value → H} {w : World}
theorem lists_of_trod {v : Value} {fuel : Nat} {x : DataW H × List MemPlace} (h : DataW.trod enc Try.prog w 0 (fun _ => true) true fuel 28 [v] = some x) : ∃ l, Lists w v l := by
  rcases open_slice1 Try.underlying28 (by kernel_rfl) h with ⟨hcs, _⟩ | ⟨a, len, cap, m, n, V, D, Pl, hcs, _, hl, hm, hmm, _, hx⟩
  · simp only [List.cons.injEq, and_true] at hcs
    subst hcs
    exact ⟨[], none, 0, rfl, by simp, fun i hi => by cases hi⟩
  · simp only [List.cons.injEq, and_true] at hcs
    subst hcs
    simp only [if_true] at hmm
    subst hmm
    have key : ∀ i, i < len → ∃ d : Value × List Int, w.cell? (a.add i) = some d.1 ∧ Sl w d.1 d.2 ∧ Bs d.2 := fun i hi => by
      obtain ⟨h1, h2⟩ := hx i (by omega)
      obtain ⟨bs, hs, hB⟩ := bytes_of_trod h2
      exact ⟨(V i, bs), h1, hs, hB⟩
    have inst : Inhabited (Value × List Int) := ⟨(.slice none 0 0, [])⟩
    obtain ⟨F, hF⟩ := @choose_lt (Value × List Int) inst len (fun i d => w.cell? (a.add i) = some d.1 ∧ Sl w d.1 d.2 ∧ Bs d.2) key
    have hlen : ((List.range len).map F).length = len := by simp
    refine ⟨(List.range len).map F, some a, m, by rw [hlen], by unfold maxLen at hm; omega, fun i hi => ?_⟩
    rw [hlen] at hi
    have s0 := (hF 0 (by omega)).1
    obtain ⟨hA, hS, hB⟩ := hF i hi
    obtain ⟨b, off, spot⟩ := a
    have hspot : ((⟨b, off, spot⟩ : Addr).add 0).spot = none := World.cell?_spot s0
    have hspot' : spot = none := by rw [Addr.add_zero'] at hspot; exact hspot
    subst hspot'
    rw [Addr.add_lit] at hA
    exact ⟨b, off, rfl, by simpa using hA, by simpa using hS, by simpa using hB⟩
end

/-- texts behind their lengths, one behind the other. -/
def encs (l : List (List Int)) : List Int := (l.map fun x => be x.length 2 0 ++ x).flatten
theorem encs_snoc (l : List (List Int)) (x : List Int) : encs (l ++ [x]) = encs l ++ be x.length 2 0 ++ x := by simp [encs]

theorem encs_take (l : List (Value × List Int)) (k : Nat) (h : k < l.length) : encs ((l.take (k + 1)).map (·.2)) = encs ((l.take k).map (·.2)) ++ be l[k].2.length 2 0 ++ l[k].2 := by
  rw [List.take_succ_eq_append_getElem h, List.map_append]
  exact encs_snoc _ _
theorem encs_len (l : List (Value × List Int)) (m k : Nat) (hm : ∀ x ∈ l, x.2.length ≤ m) : (encs ((l.take k).map (·.2))).length ≤ k * (m + 2) := by
  induction k with
  | zero => simp [encs]
  | succ k ih =>
    rcases Nat.lt_or_ge k l.length with h | h
    · rw [encs_take l k h]
      have := hm l[k] (List.getElem_mem h)
      simp only [List.length_append, be_length]
      rw [Nat.add_mul]
      omega
    · rw [List.take_of_length_le (by omega)] at ih ⊢
      rw [Nat.add_mul]; omega

set_option maxHeartbeats 400000 in
theorem all_any (p : Nat) (v : Value) (bs : List Int) (vl : Value) (l : List (Value × List Int)) (w0 w : World) (hw : Wr w p v bs) (hl : Lists w0 vl l) (k0 : Kp [] w0 w) (hp : w0.heap.size ≤ p) (hv : ∀ k, v.ownBlock = some k → w0.heap.size ≤ k)
    (hm : ∀ x ∈ l, x.2.length ≤ 1000) (hn : l.length ≤ 1000) (hb : bs.length ≤ 1000000000) :
    Calls Try.prog 33 #[vl, Value.func (Fn.func 10) #[.pointer (some ⟨p, 0, none⟩)] #[]] w fun e w' => e = .returned (.bool true) ∧ ∃ v', Wr w' p v' (bs ++ encs (l.map (·.2))) ∧ Step p w v w' v' := by
  obtain ⟨al, cl, rfl, hll, hcell⟩ := hl
  have hlen : (l.length : Int) ≤ 1000 := by omega
  go_enter Try.func33, Try.ntmps33
  go_wp2_with fail
  go_loopw [9] (fun i wr => ∃ k : Nat, k ≤ l.length ∧ i = .int .i64 k ∧ ∃ v', Wr wr p v' (bs ++ encs ((l.take k).map (·.2))) ∧ Step p w v wr v') (fun i _ => l.length - (intOf i).toNat)
  case atStart => exact ⟨0, Nat.zero_le _, rfl, v, by simpa [encs] using hw, Step.refl _ _ _⟩
  case round =>
    obtain ⟨k, hk, rfl, v', hw', hst⟩ := hrel
    by_cases hlt : k < l.length
    · obtain ⟨b, off, rfl, hc, hS, hB⟩ := hcell k hlt
      have hkk : Kp [] w0 wr := k0.then hst.1 (by
        intro i hi
        simp only [List.mem_cons, Option.mem_toList] at hi
        rcases hi with rfl | hi
        · exact .inr hp
        · exact .inr (hv i hi))
      have hle := encs_len l 1000 k hm
      have hkl : k * (1000 + 2) ≤ 1000 * 1002 := by omega
      have hml := hm l[k] (List.getElem_mem hlt)
      have hE := encs_take l k hlt
      obtain ⟨x, hx⟩ : ∃ x, x = l[k] := ⟨_, rfl⟩
      rw [← hx] at hc hS hB hml hE
      have hcw := hkk.cell hc (by simp)
      have hSw := hS.kept hkk (by simp)
      obtain ⟨ax, cx, hxv⟩ : ∃ ax cx, x.1 = .slice ax x.2.length cx := by obtain ⟨ax, cx, e, _⟩ := hS; exact ⟨ax, cx, e⟩
      have HE := hide hE
      have hSk : ∀ w1, Kp (p :: v'.ownBlock.toList) wr w1 → Sl w1 (.slice ax x.2.length cx) x.2 := fun w1 hw1 => by
        rw [← hxv]
        refine hS.kept (hkk.then hw1 (fun i hi => ?_)) (by simp)
        simp only [List.mem_cons, Option.mem_toList] at hi
        rcases hi with rfl | hi
        · exact .inr hp
        · rcases hst.2 i hi with e | e
          · exact .inr (hv i e)
          · exact .inr (Nat.le_trans k0.size e)
      rw [hxv] at hSw
      have HK := hide hSk
      have HST := hide hst
      clear hE hx hc hS hcell hSk hst
      go_wp2_with fail
      refine (bytes_ok p v' _ _ x.2 _ hw' hSw (unhide HK) (by rw [List.length_append]; omega) (by omega)).mono ?_
      rintro e w2 ⟨rfl, v2, a2, s2⟩
      have R : Wr w2 p v2 (bs ++ encs ((l.take (k + 1)).map (·.2))) := by
        rw [unhide HE]
        simpa only [List.append_assoc] using a2
      clear hSw hcw hw' a2
      go_wp2_with fail
      go_roundw
      case rel => exact ⟨k + 1, by omega, by go_num, v2, R, (unhide HST).trans s2⟩
      case measure => simp [intOf]; omega
    · obtain rfl : k = l.length := by omega
      rw [List.take_length] at hw'
      clear hcell
      go_wp2_with fail
      go_ret
      exact ⟨rfl, v', hw', hst⟩

theorem each_any (p : Nat) (v : Value) (bs : List Int) (vl : Value) (l : List (Value × List Int)) (w0 w : World) (hw : Wr w p v bs) (hl : Lists w0 vl l) (k0 : Kp [] w0 w) (hp : w0.heap.size ≤ p) (hv : ∀ k, v.ownBlock = some k → w0.heap.size ≤ k)
    (hm : ∀ x ∈ l, x.2.length ≤ 1000) (hn : l.length ≤ 1000) (hb : bs.length ≤ 1000000000) :
    Calls Try.prog 12 #[.pointer (some ⟨p, 0, none⟩), vl] w fun e w' => e = .returned (.bool true) ∧ ∃ v', Wr w' p v' (bs ++ encs (l.map (·.2))) ∧ Step p w v w' v' := by
  go_enter Try.func12, Try.ntmps12
  go_wp2_with fail
  refine (all_any p v bs vl l w0 _ hw hl k0 hp hv hm hn hb).mono ?_
  rintro e w1 ⟨rfl, v1, h1, h2⟩
  go_wp2_with fail
  go_ret
  exact ⟨rfl, v1, h1, h2⟩
end Go.Proofs.Ythpekclkclpbpaa

/-
  The contracts of package journal: Open, Put, Sync, Add, Count.
-/
import Derived.Test.YtillhpgdlmeajaaGreatDoorKJProg
namespace Go.Proofs.YtillhpgdlmeajaaGreatDoor
open Go.RowKit
open Go.Proofs

/-- records beside a journal and its disk. -/
structure Pj (w : World) (base : Nat) (o : Value) (l : List (Value × List Int)) (p j : Nat) (v : Value) : Prop where
  parts : Parts w base o l
  off : ∀ i ∈ j :: dfp p v, o.ownBlock ≠ some i ∧ ∀ x ∈ l, x.1.ownBlock ≠ some i
theorem Parts.off {w w' : World} {base : Nat} {o : Value} {l : List (Value × List Int)} {S : List Nat} (h : Parts w base o l) (k : Kp S w w') (hS : ∀ i ∈ S, o.ownBlock ≠ some i ∧ ∀ x ∈ l, x.1.ownBlock ≠ some i) : Parts w' base o l :=
  ⟨h.1.kept k (fun i hi hm => (hS i hm).1 hi), fun x hx => ⟨(h.2 x hx).1.kept k (fun i hi hm => (hS i hm).2 x hx hi), (h.2 x hx).2⟩⟩
theorem Parts.ltO {w : World} {base : Nat} {o : Value} {l : List (Value × List Int)} (h : Parts w base o l) (i : Nat) (hi : w.heap.size ≤ i) : o.ownBlock ≠ some i ∧ ∀ x ∈ l, x.1.ownBlock ≠ some i :=
  ⟨fun e => by have := h.1.lt e; omega, fun x hx e => by have := (h.2 x hx).1.lt e; omega⟩
theorem Pj.step {w w' : World} {base : Nat} {o : Value} {l : List (Value × List Int)} {p j : Nat} {v v' : Value} (h : Pj w base o l p j v) (t : JSt p j w v w' v') : Pj w' base o l p j v' := by
  refine ⟨h.parts.off t.1 h.off, fun i hi => ?_⟩
  rcases List.mem_cons.1 hi with rfl | hi
  · exact h.off _ (by simp)
  · rcases mem_dfp.1 hi with rfl | hi
    · exact h.off _ (by simp [dfp])
    · rcases t.2 i hi with h1 | h1
      · exact h.off i (by simp [mem_dfp, h1])
      · exact h.parts.ltO i h1
namespace Dk
/-- behind Open: what is torn is cut away. -/
def opn (d : Dk) : Dk := if (opnP d.bs).2.1 < d.bs.length then { d with bs := d.bs.take (opnP d.bs).2.1, syn := (opnP d.bs).2.1 } else d
theorem opn_bs (d : Dk) : d.opn.bs = d.bs.take (opnP d.bs).2.1 := by
  unfold opn
  split
  · rfl
  · rw [List.take_of_length_le (by omega)]
end Dk
theorem open_nil (w : World) : Calls Tryz.prog 42 #[.pointer none] w fun e w' => e = .returned (.tuple #[.pointer none, .slice none 0 0, .int .i64 1]) ∧ w' = w := by
  go_enter Tryz.func42, Tryz.ntmps42
  go_wp2_with fail
  go_ret3
  exact ⟨rfl, rfl⟩
set_option maxRecDepth 100000 in
set_option maxHeartbeats 4000000 in
theorem open_any {w0 w : World} {p : Nat} {v : Value} {d : Dk} (h : Nw w0 w p v d) (hd : d.down = false) (ha : d.arm ≤ 0) :
    Calls Tryz.prog 42 #[.pointer (some ⟨p, 0, none⟩)] w fun e w' =>
      ((opnP d.bs).2.2 = true ∧ ∃ j v' ao m c l, e = .returned (.tuple #[.pointer (some ⟨j, 0, none⟩), .slice ao m c, .int .i64 0]) ∧ Jn w0 w' p v' d.opn j (opnP d.bs).1.length ∧ w.heap.size ≤ j ∧ DSt p w v w' v' ∧ Pj w' w.heap.size (.slice ao m c) l p j v' ∧ l.map (·.2) = (opnP d.bs).1 ∧ m = (opnP d.bs).1.length) ∨
      ((opnP d.bs).2.2 = false ∧ e = .returned (.tuple #[.pointer none, .slice none 0 0, .int .i64 14]) ∧ Nw w0 w' p v d ∧ Kp [] w w') := by
  have HH := hide h
  have HB := hide (nw_bytes h)
  have hfit := h.dk.fit
  have hlen : d.bs.length ≤ 1048576 := by have := hfit.ok.fits; have := hfit.ok.lim; omega
  have HBs := hide hfit.bytes
  have HCut := hide (Dk.cut_plain hd ha)
  clear h hfit hd ha
  go_enter Tryz.func42, Tryz.ntmps42
  go_wp2_with fail
  refine HB.out.mono ?_
  rintro ee w1 ⟨ab, mb, cb, rfl, R1, N1, K1, -⟩
  have HR := hide (read_jr _ d.bs w1 R1.sl HBs.out hlen)
  have HN1 := hide N1
  have HK1 := hide K1
  clear HB R1 N1 K1
  go_wp2_with fail
  refine HR.out.mono ?_
  rintro ee w2 ⟨K2, ⟨ht, ao, m, c, l, rfl, P2, hl2⟩ | ⟨hf, rfl⟩⟩
  · obtain ⟨at_, hat⟩ : ∃ a, a = (opnP d.bs).2.1 := ⟨_, rfl⟩
    have hle := opnP_at d.bs
    rw [← hat] at hle ⊢
    have HAt := hide hat
    have HK2 := hide (HK1.out.trans K2)
    have HN2 := hide (HN1.out.on K2)
    have HP2 := hide (P2.rebase HK1.out)
    have HT := hide ht
    have HL2 := hide hl2
    have hm : m = l.length := by have := P2.1.len; simpa using this
    have hml : m = (opnP d.bs).1.length := by rw [hm, ← hl2]; simp
    have HML := hide hml
    clear K2 P2 hl2 ht hat hm hml HR
    have HSz := hide (size_any p v d _ w2 HN2.out.dk)
    obtain ⟨nb, hnb⟩ : ∃ n, n = d.bs.length := ⟨_, rfl⟩
    rw [← hnb] at HSz hle hlen
    have HNb := hide hnb
    clear hnb
    by_cases hlt : at_ < nb
    · have hlt' : (at_ : Int) < nb := by omega
      have hcut : d.cut at_ = (0, d.opn) := by
        have := HCut.out at_ (by omega) (by have := HNb.out; omega)
        rw [this, Int.toNat_natCast]
        unfold Dk.opn
        rw [← HAt.out, ← HNb.out, if_pos hlt]
      have HC := hide (nw_cut HN2.out at_ 0 hcut)
      clear hcut
      go_wp2_with (go_at_call 87; refine HSz.out.mono ?_; rintro ee w3 ⟨rfl, hw3⟩; subst w3; clear HSz)
      refine HC.out.mono ?_
      rintro ee w3 ⟨rfl, v3, N3, T3⟩
      have HN3 := hide N3
      have HT3 := hide T3
      clear N3 T3 HC
      go_wp2_with fail
      go_ret3
      have ka : Kp [] w3 (w3.alloc (.cells #[.pointer (some ⟨p, 0, none⟩), .int .i64 m] 149)) := (Kp.refl [] w3).alloc _
      have t0 : DSt p w v w3 v3 := (DSt.mid v HK2.out).trans HT3.out
      refine .inl ⟨HT.out, w3.heap.size, v3, ao, m, c, l, rfl, ⟨HN3.out.on ka, ?_, HN3.out.kp.size⟩, t0.1.size, t0.trans (DSt.mid v3 ka), ?_, HL2.out, HML.out⟩
      · rw [← HML.out]; exact heap_alloc_new w3 _
      · have hoff : ∀ i ∈ dfp p v3, (Value.slice ao m c).ownBlock ≠ some i ∧ ∀ x ∈ l, x.1.ownBlock ≠ some i := fun i hi => by
          rcases mem_dfp.1 hi with rfl | hi
          · have := HH.out.dk.lt _ (mem_dfp.2 (.inl rfl))
            exact ⟨fun e => by have := HP2.out.1.own _ e; omega, fun x hx e => by have := Row.own (HP2.out.2 x hx).1 _ e; omega⟩
          · rcases HT3.out.2 i hi with h1 | h1
            · have := HH.out.dk.lt _ (mem_dfp.2 (.inr h1))
              exact ⟨fun e => by have := HP2.out.1.own _ e; omega, fun x hx e => by have := Row.own (HP2.out.2 x hx).1 _ e; omega⟩
            · exact HP2.out.ltO i h1
        have hin : ∀ i ∈ dfp p v, (Value.slice ao m c).ownBlock ≠ some i ∧ ∀ x ∈ l, x.1.ownBlock ≠ some i := fun i hi => by
          have := HH.out.dk.lt _ hi
          exact ⟨fun e => by have := HP2.out.1.own _ e; omega, fun x hx e => by have := Row.own (HP2.out.2 x hx).1 _ e; omega⟩
        have P3 := HP2.out.off HT3.out.1 hin
        refine ⟨P3.kept ka, fun i hi => ?_⟩
        rcases List.mem_cons.1 hi with rfl | hi
        · exact P3.ltO _ (Nat.le_refl _)
        · exact hoff i hi
    · have hlt' : ¬ (at_ : Int) < nb := by omega
      have hopn : d.opn = d := by unfold Dk.opn; rw [← HAt.out, ← HNb.out, if_neg hlt]
      have HOp := hide hopn
      clear hopn HCut
      go_wp2_with (go_at_call 87; refine HSz.out.mono ?_; rintro ee w3 ⟨rfl, hw3⟩; subst w3; clear HSz)
      go_ret3
      have ka : Kp [] w2 (w2.alloc (.cells #[.pointer (some ⟨p, 0, none⟩), .int .i64 m] 149)) := (Kp.refl [] w2).alloc _
      rw [HOp.out]
      refine .inl ⟨HT.out, w2.heap.size, v, ao, m, c, l, rfl, ⟨HN2.out.on ka, ?_, HN2.out.kp.size⟩, HK2.out.size, DSt.mid v (HK2.out.trans ka), ⟨HP2.out.kept ka, fun i hi => ?_⟩, HL2.out, HML.out⟩
      · rw [← HML.out]; exact heap_alloc_new w2 _
      · rcases List.mem_cons.1 hi with rfl | hi
        · exact HP2.out.ltO _ (Nat.le_refl _)
        · have := HH.out.dk.lt _ hi
          exact ⟨fun e => by have := HP2.out.1.own _ e; omega, fun x hx e => by have := Row.own (HP2.out.2 x hx).1 _ e; omega⟩
  · have HF := hide hf
    have HK2 := hide (HK1.out.trans K2)
    have HN2 := hide (HN1.out.on K2)
    clear K2 hf HR
    go_wp2_with fail
    go_ret3
    exact .inr ⟨HF.out, rfl, HN2.out, HK2.out⟩
end Go.Proofs.YtillhpgdlmeajaaGreatDoor

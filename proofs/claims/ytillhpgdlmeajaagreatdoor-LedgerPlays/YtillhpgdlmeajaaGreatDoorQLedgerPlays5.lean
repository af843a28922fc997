/-
  The law LedgerPlays: what one ask does to the ledger and to the reference's.
-/
import Derived.Test.YtillhpgdlmeajaaGreatDoorQB1
import Derived.Test.YtillhpgdlmeajaaGreatDoorQB3
import Derived.Test.YtillhpgdlmeajaaGreatDoorQLedgerPlays1
import Derived.Test.YtillhpgdlmeajaaGreatDoorQB2
import Derived.Test.YtillhpgdlmeajaaGreatDoorQB4
import Derived.Test.YtillhpgdlmeajaaGreatDoorQLedgerPlays4
import Derived.Test.YtillhpgdlmeajaaGreatDoorQB5
import Derived.Test.YtillhpgdlmeajaaGreatDoorQLedgerPlays2
import Derived.Test.YtillhpgdlmeajaaGreatDoorQB6
import Derived.Test.YtillhpgdlmeajaaGreatDoorQLedgerPlays3
import Derived.Test.YtillhpgdlmeajaaGreatDoorQB7
import Derived.Deep.Cut
import Derived.Deep.CutBlock
import Derived.Deep.CutRange
namespace Go.Proofs.YtillhpgdlmeajaaGreatDoor
open Go.RowKit
open Go.Proofs
set_option linter.unusedVariables false
/-- several more. -/
theorem al_puts {w0 w w' : World} {F : Nat → Prop} {v v' : Value} {la lf : List (Value × List Int)} (h : Al w0 w F v la) (hF : ∀ i, F i → i < w.heap.size) (r : RowV w' w0.heap.size v' ((la ++ lf).map (·.1))) (s : RStep w v w' v') (hx : ∀ x ∈ lf, Sl w x.1 x.2 ∧ Bs x.2 ∧ ∀ k, x.1.ownBlock = some k → w0.heap.size ≤ k ∧ k < w.heap.size ∧ ¬ F k ∧ v.ownBlock ≠ some k) : Al w0 w' F v' (la ++ lf) := by
  have hs := s.1.size
  have hown : ∀ j ∈ v.ownBlock.toList, v.ownBlock = some j := fun j hj => by simpa [Option.mem_toList] using hj
  refine ⟨⟨⟨r, fun x hx1 => ?_⟩, fun x hx1 k hk => ?_⟩, fun k hk => ⟨r.lt hk, ?_⟩, fun y hy k hk => ?_⟩
  · rcases List.mem_append.1 hx1 with h1 | h1
    · obtain ⟨g1, g2, g3⟩ := h.row.1.2 x h1
      refine ⟨g1.apart s.1 (fun i hi hm => g3 i hi (hown i hm)), g2, fun j hj hv => ?_⟩
      rcases s.2 j hv with h2 | h2
      · exact g3 j hj h2
      · have := (h.its x h1 j hj).1; omega
    · obtain ⟨g1, g2, g3⟩ := hx x h1
      refine ⟨g1.kept s.1 (fun i hi hm => (g3 i hi).2.2.2 (hown i hm)), g2, fun j hj hv => ?_⟩
      rcases s.2 j hv with h2 | h2
      · exact absurd h2 (g3 j hj).2.2.2
      · have := (g3 j hj).2.1; omega
  · rcases List.mem_append.1 hx1 with h1 | h1
    · exact h.row.2 x h1 k hk
    · exact ((hx x h1).2.2 k hk).1
  · rcases s.2 k hk with h1 | h1
    · exact (h.own k h1).2
    · exact fun e => by have := hF k e; omega
  · rcases List.mem_append.1 hy with h1 | h1
    · exact ⟨by have := (h.its y h1 k hk).1; omega, (h.its y h1 k hk).2⟩
    · exact ⟨by have := ((hx y h1).2.2 k hk).2.1; omega, ((hx y h1).2.2 k hk).2.2.1⟩
theorem itemX_no (x : Int) : itemX x ≠ noSuch := by
  intro h
  have h1 := congrArg List.length h
  unfold itemX at h1
  rw [encM_len, nums_len] at h1
  have h2 : (mkM x (x.tdiv 4) (x.tdiv 40)).f.length = 32 := hashK_len _
  rw [h2] at h1
  have h3 : noSuch.length = 16 := rfl
  omega
/-- a ledger behind k asks. -/
structure PlS (S : LS) (k : Nat) : Prop where
  dd : ∃ rs, gatU [] rs = some S.its ∧ (∀ r ∈ rs, Bs r ∧ r.length ≤ 65535) ∧ (layP rs).length ≤ 400 * k ∧ rs.length ≤ k ∧ S.dd = dkOn (layP rs)
  dk : S.dk = dkOn (klay S.n)
  mj : S.mj ≤ k
  mb : S.mb ≤ S.n
  sd : S.seed = seedX 2
  few : S.its.length ≤ 6 * k
  its : ∀ x ∈ S.its, ∃ y, x = itemX y
theorem PlS.no {S : LS} {k : Nat} (h : PlS S k) : noSuch ∉ S.its := fun hm => by
  obtain ⟨y, e⟩ := h.its _ hm
  exact itemX_no y e.symm
theorem PlS.short {S : LS} {k : Nat} (h : PlS S k) : ∀ x ∈ S.its, x.length ≤ 65535 := fun x hx => by
  obtain ⟨y, rfl⟩ := h.its _ hx
  have := itemX_len y
  omega
theorem PlS.more {S : LS} {k m : Nat} (h : PlS S k) (hm : k ≤ m) : PlS S m := by
  obtain ⟨rs, h1, h2, h3, h4, h5⟩ := h.dd
  exact ⟨⟨rs, h1, h2, by omega, by omega, h5⟩, h.dk, by have := h.mj; omega, h.mb, h.sd, by have := h.few; omega, h.its⟩
theorem pls0 : PlS (ls0 (seedX 2)) 0 := ⟨⟨[], rfl, by simp, by simp [layP], by simp, rfl⟩, rfl, Nat.le_refl _, Nat.le_refl _, rfl, Nat.le_refl _, fun x hx => by cases hx⟩
section
variable {w0 w : World} {l pd pk : Nat} {S : LS} {f : Fps}
theorem Lg.le (h : Lg w0 w l pd pk S f) : ∀ a, S.la = some a → a.1 ≤ S.its.length := fun a ha => by
  obtain ⟨j, s, q, vs, pv, hx⟩ := h
  have h2 := hx.la
  rw [ha] at h2
  exact h2.1
theorem uadd_pl (h : Lg w0 w l pd pk S f) (k : Nat) (hk : k ≤ 14) (hP : PlS S k) (vi : Value) (li : List (Value × List Int)) (ys : List Int) (hxs : li.map (·.2) = ys.map itemX) (hL : Lists w vi li) (hn : ys.length ≤ 6) :
    Calls Tryz.prog 15 #[.pointer (some ⟨l, 0, none⟩), vi] w fun e w' => ∃ vr, e = .returned (.tuple #[vr, .int .i64 0]) ∧ RowI w' w.heap.size vr (nsU S.its (ys.map itemX)) ∧ ∃ S' f', Lg w0 w' l pd pk S' f' ∧ LSt w f w' f' ∧ (∀ k, vr.ownBlock = some k → ¬ f'.tot k) ∧ PlS S' (k + 1) ∧ S'.its = allU S.its (ys.map itemX) ∧ S'.n = S.n ∧ S'.seed = S.seed ∧ S'.la = S.la := by
  obtain ⟨xs, hx⟩ : ∃ xs, xs = ys.map itemX := ⟨_, rfl⟩
  have hxl : xs.length ≤ 6 := by rw [hx, List.length_map]; exact hn
  have hxm : ∀ x ∈ xs, ∃ y, x = itemX y := fun x hm => by
    rw [hx] at hm
    obtain ⟨y, _, rfl⟩ := List.mem_map.1 hm
    exact ⟨y, rfl⟩
  rw [← hx] at hxs ⊢
  have hx62 : ∀ x ∈ xs, Bs x ∧ x.length ≤ 62 := fun x hm => by
    obtain ⟨y, rfl⟩ := hxm x hm
    exact ⟨itemX_bs y, itemX_len y⟩
  have hfew := hP.few
  by_cases h0 : newU S.its xs = []
  · refine (uadd_none h vi li xs hxs hL (fun x hm => by have := (hx62 x hm).2; omega) (by omega) h0).mono ?_
    rintro e w' ⟨vr, rfl, R, K⟩
    refine ⟨vr, rfl, R, S, f, h.on K, Stp.mid K, fun k hk hf => by have := (h.lt k hf).2; have := (R.lt hk).1; omega, hP.more (by omega), ?_, rfl, rfl, rfl⟩
    rw [allU_new, h0, List.append_nil]
  · have hnl := newU_le S.its xs
    have hnx : ∀ x ∈ newU S.its xs, x ∈ xs := fun x hm => (newU_mem h.nd hm).1
    have hlen := batU_len (newU S.its xs) 62 (fun x hm => (hx62 x (hnx x hm)).2)
    have hall : (allU S.its xs).length = S.its.length + (newU S.its xs).length := by rw [allU_new, List.length_append]
    obtain ⟨rs, hg, hrB, hrl, hrn, hdd⟩ := hP.dd
    have hadd := Dk.add_on (layP rs) (recP (batU (newU S.its xs))) (by rw [recP_len]; omega)
    rw [← hdd] at hadd
    refine (uadd_any h vi li xs hxs hL (fun x hm => by have := (hx62 x hm).2; omega) (by omega) (by omega) h0 (by have := hP.mj; omega) (by omega) true _ hadd).mono ?_
    rintro e w' ⟨vr, en, rfl, rfl, R, f', L, T, ho⟩
    have hnd2 : (S.its ++ newU S.its xs).Nodup := by rw [← allU_new]; exact allU_nodup h.nd
    refine ⟨vr, rfl, R, _, f', L, T, ho, ⟨⟨rs ++ [batU (newU S.its xs)], ?_, fun r hr => ?_, ?_, by rw [List.length_append]; simp; omega, ?_⟩, hP.dk, by show S.mj + 1 ≤ k + 1; have := hP.mj; omega, hP.mb, hP.sd, by show (allU S.its xs).length ≤ _; omega, fun x hm => ?_⟩, rfl, rfl, rfl, rfl⟩
    · show gatU [] _ = some (allU S.its xs)
      rw [allU_new]
      exact gatU_add hg hnd2 h0 (fun x hm => by have := (hx62 x (hnx x hm)).2; omega) (by omega)
    · rcases List.mem_append.1 hr with hr | hr
      · exact hrB r hr
      · obtain rfl : r = batU (newU S.its xs) := by simpa using hr
        exact ⟨batU_bs (fun x hm => (hx62 x (hnx x hm)).1), by omega⟩
    · rw [layP_snoc, List.length_append, recP_len]; omega
    · show dkOn (layP rs ++ recP (batU (newU S.its xs))) = _
      rw [layP_snoc]
    · have hm2 : x ∈ allU S.its xs := hm
      rw [allU_new] at hm2
      rcases List.mem_append.1 hm2 with h1 | h1
      · exact hP.its x h1
      · exact hxm x (hnx x h1)
theorem crash_on (b : List Int) : (dkOn b).crash 0 = dkOn b := by
  have hl : (dkOn b).left 0 = b.length := by
    show b.length + min (Int.toNat 0) (b.length - b.length) = b.length
    simp
  unfold Dk.crash
  rw [hl]
  show (⟨b.take b.length, min b.length b.length, 1048576, 0, false⟩ : Dk) = _
  rw [List.take_length, Nat.min_self]
  rfl
theorem PlS.crashD {k : Nat} (h : PlS S k) : S.dd.crash 0 = S.dd := by
  obtain ⟨rs, -, -, -, -, e⟩ := h.dd
  rw [e, crash_on]
theorem PlS.crashK {k : Nat} (h : PlS S k) : S.dk.crash 0 = S.dk := by rw [h.dk, crash_on]
theorem uopen_pl (h : Ds w0 w pd pk S.dd S.dk f) (k : Nat) (hk : k ≤ 14) (hP : PlS S k) (hn : S.n ≤ 16) (vs : Value) (b : Nat) (hb : ∀ i, f.tot i → i < b) (hS : Row w b vs (seedX 2)) :
    Calls Tryz.prog 10 #[.pointer (some ⟨pd, 0, none⟩), .pointer (some ⟨pk, 0, none⟩), vs] w fun e w' => ∃ l, e = .returned (.tuple #[.pointer (some ⟨l, 0, none⟩), .int .i64 0]) ∧ ∃ S' f', Lg w0 w' l pd pk S' f' ∧ LSt w f w' f' ∧ PlS S' k ∧ S'.its = S.its ∧ S'.n = S.n ∧ S'.seed = S.seed ∧ S'.la = none := by
  obtain ⟨rs, hg, hrB, hrl, hrn, hdd⟩ := hP.dd
  have hsh : ∀ r ∈ rs, r.length ≤ 65535 := fun r hr => (hrB r hr).2
  have hop := opnP_all rs hsh
  have hcnt := opnP_len (layP rs)
  rw [hop] at hcnt
  have hfew := hP.few
  have hs := hP.sd
  refine (uopen_ok (dd' := S.dd) (dk' := S.dk) (n := S.n) vs (seedX 2) hS.sl (seedX_bs 2) (seedX_len 2) (fun i hi hf => by have := hb i hf; have := hS.own i hi; omega) h.ok h.d (by rw [hdd]; rfl) (by rw [hdd]; exact Int.le_refl 0) h.k (by rw [hP.dk]; rfl) (by rw [hP.dk]; exact Int.le_refl 0) (by rw [hP.dk]; rfl) hn (klay_opn S.n) (by rw [hP.dk]; exact klay_dk S.n) (by rw [hdd]; rfl) hop (by rw [hdd]; exact Dk.opn_all rs hsh) hg (by omega) (fun r hr => (hrB r hr).1) (by simp only at hcnt; omega) (by omega)).mono ?_
  rintro e w' ⟨l2, rfl, f', L, T⟩
  refine ⟨l2, rfl, _, f', L, T, ⟨⟨rs, hg, hrB, hrl, hrn, hdd⟩, hP.dk, hrn, Nat.le_refl _, rfl, hP.few, hP.its⟩, rfl, rfl, hs.symm, rfl⟩
/-- what Publish does. -/
def PubR (S : LS) (n' : Nat) (la' : Option (Nat × Nat)) (ok : Bool) (sg : Sg) : Prop :=
  (∃ a2, S.la = some (S.its.length, a2) ∧ n' = S.n ∧ la' = S.la ∧ ok = true ∧ sg = sgU S.seed S.its (S.its.length, a2)) ∨
  ((∀ a, S.la = some a → a.1 ≠ S.its.length) ∧ S.n < 16 ∧ n' = S.n + 1 ∧ la' = some (S.its.length, S.n) ∧ ok = true ∧ sg = sgU S.seed S.its (S.its.length, S.n)) ∨
  ((∀ a, S.la = some a → a.1 ≠ S.its.length) ∧ S.n = 16 ∧ n' = S.n ∧ la' = S.la ∧ ok = false ∧ sg = sg0)
theorem pubR_ex (S : LS) (hn : S.n ≤ 16) : ∃ n' la' ok sg, PubR S n' la' ok sg := by
  by_cases h : ∃ a2, S.la = some (S.its.length, a2)
  · obtain ⟨a2, h⟩ := h
    exact ⟨_, _, _, _, .inl ⟨a2, h, rfl, rfl, rfl, rfl⟩⟩
  · have h2 : ∀ a, S.la = some a → a.1 ≠ S.its.length := fun a ha e => h ⟨a.2, by rw [ha, ← e]⟩
    by_cases h3 : S.n < 16
    · exact ⟨_, _, _, _, .inr (.inl ⟨h2, h3, rfl, rfl, rfl, rfl⟩)⟩
    · exact ⟨_, _, _, _, .inr (.inr ⟨h2, by omega, rfl, rfl, rfl, rfl⟩)⟩
theorem upub_pl (h : Lg w0 w l pd pk S f) (hG : Gl w0) (k : Nat) (hP : PlS S k) {n' : Nat} {la' : Option (Nat × Nat)} {ok : Bool} {sg : Sg} (hR : PubR S n' la' ok sg) :
    Calls Tryz.prog 33 #[.pointer (some ⟨l, 0, none⟩)] w fun e w' => ∃ v en, e = .returned (.tuple #[v, .int .i64 en]) ∧ en = (if ok then 0 else 23) ∧ ∃ S' f', Lg w0 w' l pd pk S' f' ∧ LSt w f w' f' ∧ PlS S' k ∧ S'.its = S.its ∧ S'.n = n' ∧ S'.seed = S.seed ∧ S'.la = la' ∧ SgA w.heap.size w' v sg := by
  rcases hR with ⟨a2, hla, rfl, rfl, rfl, rfl⟩ | ⟨hla, hn, rfl, rfl, rfl, rfl⟩ | ⟨hla, hn, rfl, rfl, rfl, rfl⟩
  · refine (upublish_old h _ a2 hla rfl).mono ?_
    rintro e w' ⟨v, rfl, hs, K⟩
    exact ⟨v, 0, rfl, rfl, S, f, h.on K, Stp.mid K, hP, rfl, rfl, rfl, rfl, hs.1⟩
  · have hadd : S.dk.add (recP [(S.n : Int)]) = (true, dkOn (klay (S.n + 1))) := by rw [hP.dk]; exact kadd_on hn
    have hmb : S.mb ≤ 1000 := by have := hP.mb; omega
    have key : ∀ {e : Ending} {w' : World}, (∃ v en, e = .returned (.tuple #[v, .int .i64 en]) ∧ en = (if true = true then 0 else 13) ∧ ∃ f', Lg w0 w' l pd pk { S with dk := dkOn (klay (S.n + 1)), mb := S.mb + 1, n := if true = true then S.n + 1 else S.n, la := if true = true then some (S.its.length, S.n) else S.la } f' ∧ LSt w f w' f' ∧ ∃ b, (∀ i, f'.tot i → i < b) ∧ w.heap.size ≤ b ∧ b ≤ w'.heap.size ∧ (if true = true then SgU b w' v (sgU S.seed S.its (S.its.length, S.n)) else v = sgd0)) →
        ∃ v en, e = .returned (.tuple #[v, .int .i64 en]) ∧ en = (if true = true then 0 else 23) ∧ ∃ S' f', Lg w0 w' l pd pk S' f' ∧ LSt w f w' f' ∧ PlS S' k ∧ S'.its = S.its ∧ S'.n = S.n + 1 ∧ S'.seed = S.seed ∧ S'.la = some (S.its.length, S.n) ∧ SgA w.heap.size w' v (sgU S.seed S.its (S.its.length, S.n)) := by
      rintro e w' ⟨v, en, rfl, rfl, f', L, T, b, h1, h2, h3, h4⟩
      have h4' : SgU b w' v (sgU S.seed S.its (S.its.length, S.n)) := h4
      exact ⟨v, 0, rfl, rfl, _, f', L, T, ⟨hP.dd, rfl, hP.mj, by show S.mb + 1 ≤ S.n + 1; have := hP.mb; omega, hP.sd, hP.few, hP.its⟩, rfl, rfl, rfl, rfl, h4'.1.low h2⟩
    cases hs : S.la with
    | none => exact (upub_anyN h hG hs hn hmb true _ hadd).mono (fun _ _ h => key h)
    | some a =>
      obtain ⟨a1, a2⟩ := a
      exact (upub_anyS h hG a1 a2 hs (hla _ hs) hn hmb true _ hadd).mono (fun _ _ h => key h)
  · refine (upub_full h hn hla).mono ?_
    rintro e w' ⟨rfl, K⟩
    exact ⟨sgd0, 23, rfl, rfl, S, f, h.on K, Stp.mid K, hP, rfl, rfl, rfl, rfl, fun _ w2 _ _ => sgd0_v w2⟩
theorem r15pub_pl {F : Nat → Prop} {p : Nat} {vi : Value} (h : Rf w0 w F p vi S.seed S.its S.n S.la) (hF : ∀ j, F j → j < w.heap.size) (k : Nat) (hk : k ≤ 14) (hP : PlS S k) {n' : Nat} {la' : Option (Nat × Nat)} {ok : Bool} {sg : Sg} (hR : PubR S n' la' ok sg) :
    Calls Tryz.prog 57 #[.pointer (some ⟨p, 0, none⟩)] w fun e w' => ∃ v, e = .returned (.tuple #[v, .bool ok]) ∧ SgV w' v sg ∧ Rf w0 w' F p vi S.seed S.its n' la' ∧ Kp [p] w w' := by
  have hfew := hP.few
  have hsB : Bs S.seed := by rw [hP.sd]; exact seedX_bs 2
  have hsl : S.seed.length = 32 := by rw [hP.sd]; exact seedX_len 2
  have onK : ∀ {w'}, Kp [] w w' → Stp F w w' F := fun K => ⟨⟨[], by simp, K⟩, fun i hi => .inl hi⟩
  rcases hR with ⟨a2, hla, rfl, rfl, rfl, rfl⟩ | ⟨hla, hn, rfl, rfl, rfl, rfl⟩ | ⟨hla, hn, rfl, rfl, rfl, rfl⟩
  · have h' : Rf w0 w F p vi S.seed S.its S.n (some (S.its.length, a2)) := by rw [← hla]; exact h
    refine (r15pub_old S.its.length a2 h' hF (by omega) rfl).mono ?_
    rintro e w' ⟨v, rfl, hs, K⟩
    exact ⟨v, rfl, hs, h.step (onK K), K.mono (by simp)⟩
  · cases hs : S.la with
    | none =>
      rw [hs] at h
      exact r15pub_newN h hF (by omega) hP.short hsB hsl hn
    | some a =>
      obtain ⟨a1, a2⟩ := a
      rw [hs] at h
      exact r15pub_newS a1 a2 h hF (by omega) hP.short hsB hsl hn (hla _ hs)
  · cases hs : S.la with
    | none =>
      have h' := h
      rw [hs] at h'
      refine (r15pub_usedN h' hn).mono ?_
      rintro e w' ⟨rfl, K⟩
      exact ⟨sgd0, rfl, sgd0_v w', h'.step (onK K), K.mono (by simp)⟩
    | some a =>
      obtain ⟨a1, a2⟩ := a
      have h' := h
      rw [hs] at h'
      refine (r15pub_usedS a1 a2 h' hn (hla _ hs)).mono ?_
      rintro e w' ⟨rfl, K⟩
      exact ⟨sgd0, rfl, sgd0_v w', h'.step (onK K), K.mono (by simp)⟩
theorem rtells_pl (p : Nat) (vi : Value) (hL : Lg w0 w l pd pk S f) (hR : Rf w0 w f.tot p vi S.seed S.its S.n S.la) (hG : Gl w) (hno : noSuch ∉ S.its) :
    Calls Tryz.prog 59 #[.pointer (some ⟨l, 0, none⟩), .pointer (some ⟨p, 0, none⟩)] w fun e w' => e = .returned (.bool true) ∧ Kp [] w w' := by
  cases hs : S.la with
  | none => exact rtellsN w0 w l pd pk p S f vi hL hs hR hG hno
  | some a =>
    obtain ⟨a1, a2⟩ := a
    exact rtellsS w0 w l pd pk p S f vi a1 a2 hL hs hR hG hno
end
/-- what Rf's two lists want of appended items. -/
theorem Rg.puts {w0 w w8 : World} {F : Nat → Prop} {p : Nat} {vi v' : Value} {seed : List Int} {its : List (List Int)} {n : Nat} {la : Option (Nat × Nat)} {og base : Nat} {sz ix : Int} {ar : Option Addr} {mr cr : Nat} {ap : Option Addr} {np cp : Nat} {aq : Option Addr} {nq cq : Nat} {lA lf : List (Value × List Int)} (h : Rg w0 w F p vi seed its n la og base sz ix ar mr cr ap np cp aq nq cq lA) (hF : ∀ j, F j → j < w.heap.size) (hle : ∀ a, la = some a → a.1 ≤ its.length) (hx : ∀ x ∈ lf, Sl w x.1 x.2 ∧ Bs x.2 ∧ ∀ k, x.1.ownBlock = some k → w0.heap.size ≤ k ∧ k < w.heap.size ∧ ¬ FG F p vi k) (r : RowV w8 w0.heap.size v' ((lA ++ lf).map (·.1))) (s : RStep w vi w8 v') : Rg w0 (w8.setCell ⟨p, 0, none⟩ v') F p v' seed (its ++ lf.map (·.2)) n la og base sz ix ar mr cr ap np cp aq nq cq (lA ++ lf) := by
  have K9 : Kp [p] w8 (w8.setCell ⟨p, 0, none⟩ v') := kp_set w8 p 0 _
  have hown : ∀ j ∈ vi.ownBlock.toList, vi.ownBlock = some j := fun j hj => by simpa [Option.mem_toList] using hj
  have hp8 := s.1.heap h.hp (fun hm => (h.al.own p (hown p hm)).2 (.inr rfl))
  have T1 : Stp (FG F p vi) w w8 (FG F p v') := stp_fgr s (fun j hj => r.lt hj)
  have T2 : Stp (FG F p v') w8 (w8.setCell ⟨p, 0, none⟩ v') (FG F p v') := stp_fgp K9
  have A8 : Al w0 w8 (FP F p) v' (lA ++ lf) := al_puts h.al (fun i hi => h.fg hF i (hi.elim .inl (fun e => .inr (.inl e)))) r s (fun x hm => by
    obtain ⟨g1, g2, g3⟩ := hx x hm
    exact ⟨g1, g2, fun j hj => ⟨(g3 j hj).1, (g3 j hj).2.1, fun e => (g3 j hj).2.2 (e.elim .inl (fun e => .inr (.inl e))), fun e => (g3 j hj).2.2 (.inr (.inr e))⟩⟩)
  refine ⟨?_, fun a ha => ⟨(h.la a ha).1, ?_⟩, (h.ow.step T1).step T2, A8.step (stp_fpp K9), by rw [List.map_append, h.it], h.lo, ?_, h.nf⟩
  · have := heap_setCell_same w8 p 0 _ _ v' hp8
    simpa using this
  · have e : sgU seed (its ++ lf.map (·.2)) a = sgU seed its a := by
      unfold sgU
      rw [List.take_append_of_le_length (hle a ha)]
    rw [e]
    exact ((h.la a ha).2.step T1).step T2
  · have := h.lt; have := s.1.size; have := K9.size; omega
/-- a crash takes what was published last away. -/
theorem Rf.drop {w0 w : World} {F : Nat → Prop} {p : Nat} {vi : Value} {seed : List Int} {its : List (List Int)} {n : Nat} {la : Option (Nat × Nat)} (h : Rf w0 w F p vi seed its n la) : Rf w0 (w.setCell ⟨p, 8, none⟩ (.bool false)) F p vi seed its n none := by
  obtain ⟨og, base, sz, ix, ar, mr, cr, ap, np, cp, aq, nq, cq, lA, R⟩ := h
  have K9 : Kp [p] w (w.setCell ⟨p, 8, none⟩ (.bool false)) := kp_set w p 8 _
  refine ⟨og, base, sz, ix, ar, mr, cr, ap, np, cp, aq, nq, cq, lA, ⟨?_, (fun a ha => by cases ha), R.ow.step (stp_fgp K9), R.al.step (stp_fpp K9), R.it, R.lo, Nat.lt_of_lt_of_le R.lt K9.size, R.nf⟩⟩
  have := heap_setCell_same w p 8 _ _ (.bool false) R.hp
  simpa using this
theorem Rf.at8 {w0 w : World} {F : Nat → Prop} {p : Nat} {vi : Value} {seed : List Int} {its : List (List Int)} {n : Nat} {la : Option (Nat × Nat)} (h : Rf w0 w F p vi seed its n la) : w.cell? ⟨p, 8, none⟩ = some (.bool la.isSome) ∧ w.frozen? ⟨p, 8, none⟩ = false ∧ w0.heap.size ≤ p ∧ p < w.heap.size ∧ ¬ F p := by
  obtain ⟨og, base, sz, ix, ar, mr, cr, ap, np, cp, aq, nq, cq, lA, R⟩ := h
  exact ⟨by rw [cell_of_row w p 8 _ _ _ R.hp]; rfl, frozen_of_row w p 8 _ _ R.hp, R.lo, R.lt, R.nf⟩
theorem ubytes_any {w0 w : World} {l pd pk : Nat} {S : LS} {f : Fps} (h : Lg w0 w l pd pk S f) : Calls Tryz.prog 60 #[.pointer (some ⟨pd, 0, none⟩)] w fun e w' => ∃ ao m c, e = .returned (.slice ao m c) ∧ Row w' w.heap.size (.slice ao m c) S.dd.bs ∧ Kp [] w w' := by
  obtain ⟨j, s, q, vs, pv, hx⟩ := h
  obtain ⟨v, m, -, hJ, -⟩ := hx.jx
  exact dbytes_any pd v S.dd _ w hJ.nw.dk
/-- both ledgers behind k asks. -/
def PlyI (w : World) (pd pk p k l : Nat) (wr : World) : Prop := ∃ (S : LS) (f : Fps) (vi : Value), Lg w wr l pd pk S f ∧ PlS S k ∧ Rf w wr f.tot p vi S.seed S.its S.n S.la
theorem PlyI.on {w wr w' : World} {pd pk p k l : Nat} (h : PlyI w pd pk p k l wr) (K : Kp [] wr w') : PlyI w pd pk p k l w' := by
  obtain ⟨S, f, vi, L, P, R⟩ := h
  exact ⟨S, f, vi, L.on K, P, R.step (Stp.mid K)⟩
theorem Rf.vlt {w0 w : World} {F : Nat → Prop} {p : Nat} {vi : Value} {seed : List Int} {its : List (List Int)} {n : Nat} {la : Option (Nat × Nat)} (h : Rf w0 w F p vi seed its n la) : ∀ j, vi.ownBlock = some j → j < w.heap.size := fun j hj => by
  obtain ⟨og, base, sz, ix, ar, mr, cr, ap, np, cp, aq, nq, cq, lA, R⟩ := h
  exact (R.al.own j hj).1
theorem itemX_ne (x : Int) : itemX x ≠ [] := by
  intro h
  have h1 := congrArg List.length h
  unfold itemX at h1
  rw [encM_len] at h1
  simp at h1
theorem PlS.read {S : LS} {k : Nat} (h : PlS S k) (hk : k ≤ 14) (hb : ∀ x ∈ S.its, Bs x) : Bs S.dd.bs ∧ S.dd.bs.length ≤ 100000 ∧ (opnP S.dd.bs).2.2 = true ∧ redU (opnP S.dd.bs).1 = some S.its := by
  obtain ⟨rs, hg, hrB, hrl, hrn, hdd⟩ := h.dd
  have hfew := h.few
  have hop := opnP_all rs (fun r hr => (hrB r hr).2)
  have e : S.dd.bs = layP rs := by rw [hdd]; rfl
  rw [e, hop]
  refine ⟨layP_bs (fun r hr => (hrB r hr).1), by omega, rfl, ?_⟩
  show redU rs = some S.its
  unfold redU
  rw [hg]
  show (if S.its.length ≤ 256 then some S.its else none) = some S.its
  rw [if_pos (by omega)]
end Go.Proofs.YtillhpgdlmeajaaGreatDoor

/-
  The law package of ledger: play: any calls on a ledger, beside the reference's.
-/
namespace Go.Proofs.YtillhpgdlmeajaaGreatDoor
open Go.ChangeShapes Go.WideShapes Go.ChangeAt Go.RowKit
open Go.Deep
open Go.Proofs
set_option linter.unusedVariables false
set_option maxRecDepth 100000 in
set_option maxHeartbeats 16000000 in
theorem rplay_any (v : Value) (xss : List AskU) (w : World) (hG : Gl w) (hL : AskUs w v xss) :
    Calls Tryz.prog 18 #[v] w fun e w' => e = .returned (.bool true) ∧ Kp [] w w' := by
  have HG := hide hG
  obtain ⟨al, cl, rfl, hlm, hcell⟩ := hL
  obtain ⟨N, hN⟩ : ∃ N, N = xss.length := ⟨_, rfl⟩
  have HC : Hid (∀ i (h : i < N), ∃ b off kd vx ys, al = some ⟨b, off, none⟩ ∧ w.cell? ⟨b, off + i * 2, none⟩ = some (.int .i64 kd) ∧ w.cell? ⟨b, off + i * 2 + 1, none⟩ = some vx ∧ Ints w vx ys) := fun i hi => by
    obtain ⟨b, off, e, hc, hI⟩ := hcell i (by omega)
    exact ⟨b, off, _, _, _, e, by have := hc 0 _ rfl; rwa [Nat.add_zero] at this, hc 1 _ rfl, hI⟩
  rw [← hN] at hlm ⊢
  have HF1 := hide (fresh_any w)
  clear hG hcell hN
  go_enter Tryz.func18, Tryz.ntmps18
  go_wp2_with fail
  refine HF1.out.mono ?_
  rintro ee w1 ⟨pd, rfl, N1⟩
  have HN1 := hide N1
  have HF2 := hide (fresh_any w1)
  clear HF1 N1
  go_wp2_with fail
  refine HF2.out.mono ?_
  rintro ee w2 ⟨pk, rfl, N2⟩
  have HN2 := hide N2
  have HSd := hide (xseed_any 2 w2)
  clear HF2 N2
  go_wp2_with fail
  refine HSd.out.mono ?_
  rintro ee w3 ⟨as_, ms, cs, rfl, R3, K3⟩
  have HO := hide (uopen_fresh HN1.out HN2.out K3 R3 (seedX_bs 2) (seedX_len 2))
  clear HSd R3 K3 HN1 HN2
  go_wp2_with fail
  refine HO.out.mono ?_
  rintro ee w4 ⟨l, rfl, f4, L4⟩
  have HL4 := hide L4
  have HSd := hide (xseed_any 2 w4)
  clear HO L4
  go_wp2_with fail
  refine HSd.out.mono ?_
  rintro ee w5 ⟨as5, ms5, cs5, rfl, R5, K5⟩
  have HNw := hide (r15new_any w f4.tot w4.heap.size (.slice as5 ms5 cs5) (seedX 2) w5 R5.sl (seedX_bs 2) (seedX_len 2) (fun q hq => R5.own q hq) (fun q hq => (HL4.out.lt q hq).2) K5.size HL4.out.kp.size)
  have HK5 := hide K5
  clear HSd R5 K5
  go_wp2_with fail
  refine HNw.out.mono ?_
  rintro ee w6 ⟨p, rfl, R6, K6⟩
  have HI : Hid (PlyI w pd pk p 0 l w6) := hide ⟨_, f4, _, HL4.out.on (HK5.out.trans K6), pls0, R6⟩
  clear HNw HL4 HK5 R6 K6
  go_wp2_with fail
  go_loopw [5, 6, 8] (fun lv ev i wr => ∃ k : Nat, k ≤ N ∧ k ≤ 14 ∧ i = .int .i64 k ∧ ∃ l : Nat, lv = .pointer (some ⟨l, 0, none⟩) ∧ PlyI w pd pk p k l wr) (fun _ _ i _ => N - (intOf i).toNat)
  case atStart => exact ⟨0, by omega, by omega, rfl, l, rfl, HI.out⟩
  case round =>
    clear HI
    obtain ⟨k, hkN, hk14, rfl, l, rfl, S, f, vi, hLg, hPl, hRf⟩ := hrel
    have HLg := hide hLg
    have HPl := hide hPl
    have HRf := hide hRf
    clear hLg hPl hRf
    by_cases hlt : k < N ∧ k < 14
    · obtain ⟨hl1, hl2⟩ := hlt
      have hl1' : (k : Int) < (N : Int) := by omega
      have hl2' : (k : Int) < 14 := by omega
      have hd1 : decide ((k : Int) < (N : Int)) = true := decide_eq_true hl1'
      have hd2 : decide ((k : Int) < 14) = true := decide_eq_true hl2'
      obtain ⟨b0, o0, kd, vy, ys0, rfl, hc0, hc1, hI⟩ := HC.out k hl1
      have r0 := HLg.out.kp.cell hc0 (by simp)
      have r1 := HLg.out.kp.cell hc1 (by simp)
      have HIy := hide (hI.kept HLg.out.kp)
      have HAt := hide (HRf.out.at8)
      clear hc0 hc1 hI
      go_upto_block 2 with fail
      go_cut [5, 6, 9, 10, 11, 12, 13, 14, 15, 16, 17] from 53 to 157 (fun lv _ _ _ _ _ _ _ _ _ _ wc => ∃ l : Nat, lv = .pointer (some ⟨l, 0, none⟩) ∧ Hid (PlyI w pd pk p (k + 1) l wc))
      case first =>
        by_cases h2 : kd = 2
        · have h2d : (kd == 2) = true := by simp [h2]
          clear h2
          obtain ⟨n', la', ok, sg, hR⟩ := pubR_ex S HLg.out.nk
          have HPb := hide (upub_pl HLg.out HG.out k HPl.out hR)
          have HR := hide hR
          clear hR HIy r0 r1
          go_wp2_with fail
          refine HPb.out.mono ?_
          rintro ee w5 ⟨v1, en, rfl, hen, S5, f5, L5, T5, P5, e1, e2, e3, e4, A5⟩
          obtain ⟨ar, mr, cr, ap, np, cp, aq, nq, cq, rfl, -⟩ := A5.v.shape
          have HL5 := hide L5
          have HT5 := hide T5
          have HP5 := hide P5
          have HE := hide (And.intro e1 (And.intro e2 (And.intro e3 e4)))
          have HA5 := hide A5
          have HT0 : Hid (wr.heap.size ≤ w5.heap.size) := hide T5.size
          have HT1 : Hid (¬ f5.tot p) := hide (T5.off HAt.out.2.2.2.1 HAt.out.2.2.2.2)
          have HEn := hide hen
          have HGz : Hid ((w5.alloc (.cells #[.int .i64 0, .slice none 0 0, .int .i64 0, .slice none 0 0, .slice none 0 0] 72)).heap[w5.heap.size]? = some (.cells #[.int .i64 0, .slice none 0 0, .int .i64 0, .slice none 0 0, .slice none 0 0] 72 (0, 0))) := hide (heap_alloc_new w5 _)
          obtain ⟨g9, hg9⟩ : ∃ g, g = w5.heap.size := ⟨_, rfl⟩
          have HGg := hide hg9
          clear HPb L5 T5 P5 e1 e2 e3 e4 A5 hen hg9
          go_wp2_with (refine wpList_store_flat rfl 72 (.tmp 9) (.tmp 98) rfl w5.heap.size 0 rfl #[.int .i64 0, .slice none 0 0, .int .i64 0, .slice none 0 0, .slice none 0 0] 72 [.int .i64 sg.n, .slice ar mr cr, .int .i64 sg.i, .slice ap np cp, .slice aq nq cq] HGz.out rfl (by simp) Tryz.sgdSize (by simp [Value.oneCell']) #[.int .i64 sg.n, .slice ar mr cr, .int .i64 sg.i, .slice ap np cp, .slice aq nq cq] rfl ?_; intro w6 G6 K6a; refine Hid.out ?_)
          have HK6 : Hid (Kp [] w5 w6) := hide (((Kp.refl [] w5).alloc _).then K6a (fun i hi => .inr (by simp at hi; omega)))
          have HG6 := hide G6
          rw [← HGg.out] at HG6
          rw [← HGg.out]
          have HRf6 := hide ((HRf.out.step HT5.out).step (Stp.mid HK6.out))
          have HPr := hide (r15pub_pl (k := k) HRf6.out (fun j hj => by have := (HL5.out.lt j hj).2; have := HK6.out.size; omega) hk14 HPl.out HR.out)
          clear G6 K6a HGz HRf HLg HPl HT5
          refine hide ?_
          go_wp2_with fail
          refine HPr.out.mono ?_
          rintro ee w7 ⟨v2, rfl, V7, R7, K7⟩
          obtain ⟨br, kr, dr, bp, kp, dp, bq, kq, dq, rfl, -⟩ := V7.shape
          have HV7 := hide V7
          have HR7 := hide R7
          have HK7 := hide K7
          have HGz : Hid ((w7.alloc (.cells #[.int .i64 0, .slice none 0 0, .int .i64 0, .slice none 0 0, .slice none 0 0] 72)).heap[w7.heap.size]? = some (.cells #[.int .i64 0, .slice none 0 0, .int .i64 0, .slice none 0 0, .slice none 0 0] 72 (0, 0))) := hide (heap_alloc_new w7 _)
          obtain ⟨g11, hg11⟩ : ∃ g, g = w7.heap.size := ⟨_, rfl⟩
          have HGh := hide hg11
          clear HPr V7 R7 K7 hg11 HRf6
          go_wp2_with (refine wpList_store_flat rfl 72 (.tmp 11) (.tmp 103) rfl w7.heap.size 0 rfl #[.int .i64 0, .slice none 0 0, .int .i64 0, .slice none 0 0, .slice none 0 0] 72 [.int .i64 sg.n, .slice br kr dr, .int .i64 sg.i, .slice bp kp dp, .slice bq kq dq] HGz.out rfl (by simp) Tryz.sgdSize (by simp [Value.oneCell']) #[.int .i64 sg.n, .slice br kr dr, .int .i64 sg.i, .slice bp kp dp, .slice bq kq dq] rfl ?_; intro w8 G8 K8a; refine Hid.out ?_)
          have HK8 : Hid (Kp [] w7 w8) := hide (((Kp.refl [] w7).alloc _).then K8a (fun i hi => .inr (by simp at hi; omega)))
          have HG8 := hide G8
          rw [← HGh.out] at HG8
          rw [← HGh.out]
          have hpw := HAt.out
          have HKa : Hid (∀ w', Kp [] w8 w' → Kp [] w7 w') := hide (fun w' k' => HK8.out.trans k')
          have HKb : Hid (∀ w', Kp [] w8 w' → Kp [p] w5 w') := hide (fun w' k' => ((HK6.out.mono (by simp)).trans HK7.out).trans ((HKa.out w' k').mono (by simp)))
          have HS5 : Hid (∀ w', Kp [] w8 w' → SgV w' (.agg #[.int .i64 sg.n, .slice ar mr cr, .int .i64 sg.i, .slice ap np cp, .slice aq nq cq]) sg) := hide (fun w' k' => HA5.out [p] w' (by intro q hq; have e : q = p := (by simpa using hq); rw [e]; exact HAt.out.2.2.2.1) (HKb.out w' k'))
          have HS6 : Hid (∀ w', Kp [] w8 w' → SgV w' (.agg #[.int .i64 sg.n, .slice br kr dr, .int .i64 sg.i, .slice bp kp dp, .slice bq kq dq]) sg) := hide (fun w' k' => HV7.out.kept (HKa.out w' k'))
          have HCa : Hid (∀ w', Kp [] w8 w' → CkV w' (.agg #[.int .i64 sg.n, .slice ar mr cr]) sg.n sg.r) := hide (fun w' k' => (sgv_parts (HS5.out w' k')).1)
          have HCb : Hid (∀ w', Kp [] w8 w' → CkV w' (.agg #[.int .i64 sg.n, .slice br kr dr]) sg.n sg.r) := hide (fun w' k' => (sgv_parts (HS6.out w' k')).1)
          have HVa : Hid (∀ w', Kp [] w8 w' → SigV w' (.agg #[.int .i64 sg.i, .slice ap np cp, .slice aq nq cq]) sg.i sg.ps sg.qs) := hide (fun w' k' => (sgv_parts (HS5.out w' k')).2)
          have HVb : Hid (∀ w', Kp [] w8 w' → SigV w' (.agg #[.int .i64 sg.i, .slice bp kp dp, .slice bq kq dq]) sg.i sg.ps sg.qs) := hide (fun w' k' => (sgv_parts (HS6.out w' k')).2)
          have HG9 : Hid (∀ w', Kp [] w8 w' → w'.heap[g9]? = some (.cells #[.int .i64 sg.n, .slice ar mr cr, .int .i64 sg.i, .slice ap np cp, .slice aq nq cq] 72 (0, 0))) := hide (fun w' k' => (HKa.out w' k').heap (HK7.out.heap HG6.out (by have h1 := HAt.out.2.2.2.1; have h2 := HT0.out; have h3 := HGg.out; intro hm; have e : g9 = p := (by simpa using hm); omega)) (by simp))
          have HG11 : Hid (∀ w', Kp [] w8 w' → w'.heap[g11]? = some (.cells #[.int .i64 sg.n, .slice br kr dr, .int .i64 sg.i, .slice bp kp dp, .slice bq kq dq] 72 (0, 0))) := hide (fun w' k' => k'.heap HG8.out (by simp))
          have HFin : Hid (∀ w', Kp [] w8 w' → PlyI w pd pk p (k + 1) l w') := hide (fun w' k' => by
            obtain ⟨e1, e2, e3, e4⟩ := HE.out
            obtain ⟨-, -, h3, h4, h5⟩ := HAt.out
            refine ⟨S5, f5, vi, (((HL5.out.on HK6.out).beside HK7.out (fun j hj => ?_)).on (HKa.out w' k')), HP5.out.more (by omega), by rw [e1, e2, e3, e4]; exact HR7.out.step (Stp.mid (HKa.out w' k'))⟩
            have e : j = p := by simpa using hj
            rw [e]
            exact ⟨h3, HT1.out⟩)
          clear G8 K8a HGz hpw HE HL5 HP5 HA5 HV7 HR7 HK6 HK7 HK8 HG6 HG8 HGg HGh HKa HKb HS5 HS6 HR HAt
          refine hide ?_
          have HS1 := hide (rcksame_any _ _ _ _ _ _ true (by simp) w8 (HCa.out w8 (Kp.refl _ _)) (HCb.out w8 (Kp.refl _ _)))
          cases ok
          · have hen := HEn.out
            obtain rfl : en = 23 := by simpa using hen
            clear hen HEn
            have c08 : w8.cell? ⟨g9, 0, none⟩ = some (.int .i64 sg.n) := by rw [cell_of_row w8 _ 0 _ _ _ (HG9.out w8 (Kp.refl _ _))]; rfl
            have c18 : w8.cell? ⟨g9, 1, none⟩ = some (.slice ar mr cr) := by rw [cell_of_row w8 _ 1 _ _ _ (HG9.out w8 (Kp.refl _ _))]; rfl
            have c28 : w8.cell? ⟨g9, 2, none⟩ = some (.int .i64 sg.i) := by rw [cell_of_row w8 _ 2 _ _ _ (HG9.out w8 (Kp.refl _ _))]; rfl
            have c38 : w8.cell? ⟨g9, 3, none⟩ = some (.slice ap np cp) := by rw [cell_of_row w8 _ 3 _ _ _ (HG9.out w8 (Kp.refl _ _))]; rfl
            have c48 : w8.cell? ⟨g9, 4, none⟩ = some (.slice aq nq cq) := by rw [cell_of_row w8 _ 4 _ _ _ (HG9.out w8 (Kp.refl _ _))]; rfl
            have z08 : w8.cell? ⟨g11, 0, none⟩ = some (.int .i64 sg.n) := by rw [cell_of_row w8 _ 0 _ _ _ (HG11.out w8 (Kp.refl _ _))]; rfl
            have z18 : w8.cell? ⟨g11, 1, none⟩ = some (.slice br kr dr) := by rw [cell_of_row w8 _ 1 _ _ _ (HG11.out w8 (Kp.refl _ _))]; rfl
            have z28 : w8.cell? ⟨g11, 2, none⟩ = some (.int .i64 sg.i) := by rw [cell_of_row w8 _ 2 _ _ _ (HG11.out w8 (Kp.refl _ _))]; rfl
            have z38 : w8.cell? ⟨g11, 3, none⟩ = some (.slice bp kp dp) := by rw [cell_of_row w8 _ 3 _ _ _ (HG11.out w8 (Kp.refl _ _))]; rfl
            have z48 : w8.cell? ⟨g11, 4, none⟩ = some (.slice bq kq dq) := by rw [cell_of_row w8 _ 4 _ _ _ (HG11.out w8 (Kp.refl _ _))]; rfl
            go_wp2_with fail
            refine HS1.out.mono ?_
            rintro ee w9 ⟨rfl, K9⟩
            have HS2 := hide (refsame_any _ _ _ _ _ w9 (HVa.out w9 K9) (HVb.out w9 K9))
            have c09 : w9.cell? ⟨g9, 0, none⟩ = some (.int .i64 sg.n) := by rw [cell_of_row w9 _ 0 _ _ _ (HG9.out w9 K9)]; rfl
            have c19 : w9.cell? ⟨g9, 1, none⟩ = some (.slice ar mr cr) := by rw [cell_of_row w9 _ 1 _ _ _ (HG9.out w9 K9)]; rfl
            have c29 : w9.cell? ⟨g9, 2, none⟩ = some (.int .i64 sg.i) := by rw [cell_of_row w9 _ 2 _ _ _ (HG9.out w9 K9)]; rfl
            have c39 : w9.cell? ⟨g9, 3, none⟩ = some (.slice ap np cp) := by rw [cell_of_row w9 _ 3 _ _ _ (HG9.out w9 K9)]; rfl
            have c49 : w9.cell? ⟨g9, 4, none⟩ = some (.slice aq nq cq) := by rw [cell_of_row w9 _ 4 _ _ _ (HG9.out w9 K9)]; rfl
            have z09 : w9.cell? ⟨g11, 0, none⟩ = some (.int .i64 sg.n) := by rw [cell_of_row w9 _ 0 _ _ _ (HG11.out w9 K9)]; rfl
            have z19 : w9.cell? ⟨g11, 1, none⟩ = some (.slice br kr dr) := by rw [cell_of_row w9 _ 1 _ _ _ (HG11.out w9 K9)]; rfl
            have z29 : w9.cell? ⟨g11, 2, none⟩ = some (.int .i64 sg.i) := by rw [cell_of_row w9 _ 2 _ _ _ (HG11.out w9 K9)]; rfl
            have z39 : w9.cell? ⟨g11, 3, none⟩ = some (.slice bp kp dp) := by rw [cell_of_row w9 _ 3 _ _ _ (HG11.out w9 K9)]; rfl
            have z49 : w9.cell? ⟨g11, 4, none⟩ = some (.slice bq kq dq) := by rw [cell_of_row w9 _ 4 _ _ _ (HG11.out w9 K9)]; rfl
            have HK9 := hide K9
            clear HS1 HCa HCb HVa HVb HG9 HG11 K9 c08 z08 c18 z18 c28 z28 c38 z38 c48 z48
            go_wp2_with fail
            refine HS2.out.mono ?_
            rintro ee w10 ⟨rfl, K10⟩
            have HW := hide (HFin.out _ (HK9.out.trans K10))
            clear HS2 HFin K10 HK9 c09 z09 c19 z19 c29 z29 c39 z39 c49 z49
            go_wp2_with fail
            go_meet
            case rel => exact ⟨l, rfl, HW⟩
          · have hen := HEn.out
            obtain rfl : en = 0 := by simpa using hen
            clear hen HEn
            have c08 : w8.cell? ⟨g9, 0, none⟩ = some (.int .i64 sg.n) := by rw [cell_of_row w8 _ 0 _ _ _ (HG9.out w8 (Kp.refl _ _))]; rfl
            have c18 : w8.cell? ⟨g9, 1, none⟩ = some (.slice ar mr cr) := by rw [cell_of_row w8 _ 1 _ _ _ (HG9.out w8 (Kp.refl _ _))]; rfl
            have c28 : w8.cell? ⟨g9, 2, none⟩ = some (.int .i64 sg.i) := by rw [cell_of_row w8 _ 2 _ _ _ (HG9.out w8 (Kp.refl _ _))]; rfl
            have c38 : w8.cell? ⟨g9, 3, none⟩ = some (.slice ap np cp) := by rw [cell_of_row w8 _ 3 _ _ _ (HG9.out w8 (Kp.refl _ _))]; rfl
            have c48 : w8.cell? ⟨g9, 4, none⟩ = some (.slice aq nq cq) := by rw [cell_of_row w8 _ 4 _ _ _ (HG9.out w8 (Kp.refl _ _))]; rfl
            have z08 : w8.cell? ⟨g11, 0, none⟩ = some (.int .i64 sg.n) := by rw [cell_of_row w8 _ 0 _ _ _ (HG11.out w8 (Kp.refl _ _))]; rfl
            have z18 : w8.cell? ⟨g11, 1, none⟩ = some (.slice br kr dr) := by rw [cell_of_row w8 _ 1 _ _ _ (HG11.out w8 (Kp.refl _ _))]; rfl
            have z28 : w8.cell? ⟨g11, 2, none⟩ = some (.int .i64 sg.i) := by rw [cell_of_row w8 _ 2 _ _ _ (HG11.out w8 (Kp.refl _ _))]; rfl
            have z38 : w8.cell? ⟨g11, 3, none⟩ = some (.slice bp kp dp) := by rw [cell_of_row w8 _ 3 _ _ _ (HG11.out w8 (Kp.refl _ _))]; rfl
            have z48 : w8.cell? ⟨g11, 4, none⟩ = some (.slice bq kq dq) := by rw [cell_of_row w8 _ 4 _ _ _ (HG11.out w8 (Kp.refl _ _))]; rfl
            go_wp2_with fail
            refine HS1.out.mono ?_
            rintro ee w9 ⟨rfl, K9⟩
            have HS2 := hide (refsame_any _ _ _ _ _ w9 (HVa.out w9 K9) (HVb.out w9 K9))
            have c09 : w9.cell? ⟨g9, 0, none⟩ = some (.int .i64 sg.n) := by rw [cell_of_row w9 _ 0 _ _ _ (HG9.out w9 K9)]; rfl
            have c19 : w9.cell? ⟨g9, 1, none⟩ = some (.slice ar mr cr) := by rw [cell_of_row w9 _ 1 _ _ _ (HG9.out w9 K9)]; rfl
            have c29 : w9.cell? ⟨g9, 2, none⟩ = some (.int .i64 sg.i) := by rw [cell_of_row w9 _ 2 _ _ _ (HG9.out w9 K9)]; rfl
            have c39 : w9.cell? ⟨g9, 3, none⟩ = some (.slice ap np cp) := by rw [cell_of_row w9 _ 3 _ _ _ (HG9.out w9 K9)]; rfl
            have c49 : w9.cell? ⟨g9, 4, none⟩ = some (.slice aq nq cq) := by rw [cell_of_row w9 _ 4 _ _ _ (HG9.out w9 K9)]; rfl
            have z09 : w9.cell? ⟨g11, 0, none⟩ = some (.int .i64 sg.n) := by rw [cell_of_row w9 _ 0 _ _ _ (HG11.out w9 K9)]; rfl
            have z19 : w9.cell? ⟨g11, 1, none⟩ = some (.slice br kr dr) := by rw [cell_of_row w9 _ 1 _ _ _ (HG11.out w9 K9)]; rfl
            have z29 : w9.cell? ⟨g11, 2, none⟩ = some (.int .i64 sg.i) := by rw [cell_of_row w9 _ 2 _ _ _ (HG11.out w9 K9)]; rfl
            have z39 : w9.cell? ⟨g11, 3, none⟩ = some (.slice bp kp dp) := by rw [cell_of_row w9 _ 3 _ _ _ (HG11.out w9 K9)]; rfl
            have z49 : w9.cell? ⟨g11, 4, none⟩ = some (.slice bq kq dq) := by rw [cell_of_row w9 _ 4 _ _ _ (HG11.out w9 K9)]; rfl
            have HK9 := hide K9
            clear HS1 HCa HCb HVa HVb HG9 HG11 K9 c08 z08 c18 z18 c28 z28 c38 z38 c48 z48
            go_wp2_with fail
            refine HS2.out.mono ?_
            rintro ee w10 ⟨rfl, K10⟩
            have HW := hide (HFin.out _ (HK9.out.trans K10))
            clear HS2 HFin K10 HK9 c09 z09 c19 z19 c29 z29 c39 z39 c49 z49
            go_wp2_with fail
            go_meet
            case rel => exact ⟨l, rfl, HW⟩
        · have h2d : (kd == 2) = false := by simp [h2]
          clear h2
          by_cases h3 : kd = 3
          · have h3d : (kd == 3) = true := by simp [h3]
            clear h3
            have HCd := hide (ds_crashD HLg.out.ds 0 HPl.out.crashD)
            clear HIy r0 r1
            go_wp2_with fail
            refine HCd.out.mono ?_
            rintro ee w5 ⟨rfl, f5, D5, T5⟩
            have HCk := hide (ds_crashK D5 0 HPl.out.crashK)
            have HT5 := hide T5
            clear HCd D5 T5
            go_wp2_with fail
            refine HCk.out.mono ?_
            rintro ee w6 ⟨rfl, f6, D6, T6⟩
            have HT6 : Hid (Stp f.tot wr w6 f6.tot) := hide (Stp.trans HT5.out T6)
            have HD6 := hide D6
            have HSd := hide (xseed_any 2 w6)
            clear HCk HT5 D6 T6
            go_wp2_with fail
            refine HSd.out.mono ?_
            rintro ee w7 ⟨as7, ms7, cs7, rfl, R7, K7⟩
            have HO := hide (uopen_pl (HD6.out.on K7) k hk14 HPl.out HLg.out.nk (.slice as7 ms7 cs7) w6.heap.size (fun i ⟨a, ha⟩ => (HD6.out.ok.rng a i ha).2) R7)
            have HR7 := hide ((HRf.out.step HT6.out).step (Stp.mid K7))
            clear HSd R7 K7 HD6 HT6 HRf HLg HPl
            go_wp2_with fail
            refine HO.out.mono ?_
            rintro ee w8 ⟨l2, rfl, S8, f8, L8, T8, P8, e1, e2, e3, e4⟩
            have R8 := HR7.out.step T8
            obtain ⟨c8, z8, h3, h4, h5⟩ := R8.at8
            have HW : Hid (PlyI w pd pk p (k + 1) l2 (w8.setCell ⟨p, 8, none⟩ (.bool false))) := hide ⟨S8, f8, vi, L8.beside (kp_set w8 p 8 _) (fun j hj => (by have e : j = p := (by simpa using hj); rw [e]; exact ⟨h3, h5⟩)), P8.more (by omega), by rw [e1, e2, e3, e4]; exact R8.drop⟩
            clear HO L8 T8 P8 e1 e2 e3 e4 R8 HR7 h3 h4 h5 HAt
            go_wp2_with fail
            go_meet
            case rel => exact ⟨l2, rfl, HW⟩
          · have h3d : (kd == 3) = false := by simp [h3]
            clear h3
            obtain ⟨ys, hys⟩ : ∃ y, y = ys0.take 6 := ⟨_, rfl⟩
            have HIt := hide (uitems_any vy ys0 ys hys wr HIy.out)
            have hyl : ys.length ≤ 6 := by rw [hys, List.length_take]; omega
            have HYl := hide hyl
            obtain ⟨ay, cy, hvy, -⟩ := HIy.out
            obtain ⟨ny, hny⟩ : ∃ n, n = ys0.length := ⟨_, rfl⟩
            rw [← hny] at hvy
            subst hvy
            clear hys hyl hny HIy
            go_wp2_with fail
            refine HIt.out.mono ?_
            rintro ee w5 ⟨ax, mx, cx, rfl, K5, hm, lx, R5, hlx⟩
            have hlxl : lx.length ≤ 6 := by rw [← List.length_map (f := (·.2)), hlx, List.length_map]; exact HYl.out
            have HAd := hide (uadd_pl (HLg.out.on K5) k hk14 HPl.out (.slice ax mx cx) lx ys hlx (R5.lists (by omega)) HYl.out)
            have HRf5 := hide (HRf.out.step (Stp.mid K5))
            have HNd := hide HLg.out.nd
            have HFw := hide HPl.out.few
            have HFt : Hid (∀ j, f.tot j → j < wr.heap.size) := hide (fun j hj => (HLg.out.lt j hj).2)
            have HSz5 : Hid (wr.heap.size ≤ w5.heap.size) := hide K5.size
            have HSz0 : Hid (w.heap.size ≤ wr.heap.size) := hide HLg.out.kp.size
            have HVl := hide HRf.out.vlt
            have HLe := hide HLg.out.le
            have HR5 := hide R5
            have HLx := hide hlx
            have HLl := hide hlxl
            clear HIt K5 hm R5 hlx hlxl HRf HLg HPl r0 r1
            go_wp2_with fail
            refine HAd.out.mono ?_
            rintro ee w6 ⟨vr, rfl, RI6, S6, f6, L6, T6, ho6, P6, e1, e2, e3, e4⟩
            obtain ⟨ns, hns⟩ : ∃ n, n = nsU S.its (ys.map itemX) := ⟨_, rfl⟩
            have hnl : ns.length ≤ 6 := by rw [hns, nsU_len, List.length_map]; exact HYl.out
            rw [← hns] at RI6
            obtain ⟨at_, ct, hvr⟩ := RI6.shape
            obtain ⟨mt, hmt⟩ : ∃ m, m = ns.length := ⟨_, rfl⟩
            rw [← hmt] at hvr
            subst hvr
            have HRI6 := hide RI6
            have HNs := hide hns
            have HNl := hide hnl
            have HL6 := hide L6
            have HP6 := hide P6
            have HE := hide (And.intro e1 (And.intro e2 (And.intro e3 e4)))
            have HLt6 : Hid (∀ j, f6.tot j → j < w6.heap.size) := hide (fun j hj => (L6.lt j hj).2)
            have HSz6 : Hid (w5.heap.size ≤ w6.heap.size) := hide T6.size
            have HOff : Hid (∀ j, j < w5.heap.size → ¬ f.tot j → ¬ f6.tot j) := hide (fun j hj hn => T6.off hj hn)
            obtain ⟨og, base, sz, ix, ar, mr, cr, ap, np, cp, aq, nq, cq, lA, G6⟩ := HRf5.out.step T6
            have hlA : lA.length ≤ 84 := by rw [← List.length_map (f := (·.2)), G6.it]; have := HFw.out; omega
            have HR6 : Hid (RowsQ w6 wr.heap.size (.slice ax mx cx) lx) := hide (by
              obtain ⟨U, hU, kU⟩ := T6.kp
              exact HR5.out.kept kU (fun i hi => HFt.out i (hU i hi)))
            have hc0 : w6.cell? ⟨p, 0, none⟩ = some vi := by rw [cell_of_row w6 p 0 _ _ _ G6.hp]; rfl
            obtain ⟨ai, ci, hvi⟩ := G6.al.row.1.1.shape
            obtain ⟨mi, hmi⟩ : ∃ m, m = (lA.map (·.1)).length := ⟨_, rfl⟩
            rw [← hmi] at hvi
            subst hvi
            have HPn := hide (rplan_any p (.slice ai mi ci) lA (.slice ax mx cx) lx S.its (ys.map itemX) w6 hc0 (lc_of_owns G6.al.row.1.1 (G6.al.row.lists (by omega))) G6.it (HR6.out.lists (by have := HLl.out; omega)) HLx.out (by omega) (by have := HLl.out; omega) HNd.out)
            have HG6 := hide G6
            have HlA := hide hlA
            clear HAd RI6 L6 T6 ho6 P6 e1 e2 e3 e4 hns hnl hmt G6 hlA hc0 hmi HRf5
            go_wp2_with fail
            refine HPn.out.mono ?_
            rintro ee w7 ⟨a1, m1, c1, a2, m2, c2, rfl, RN, ⟨lf, RF, hlf, hfo⟩, K7⟩
            have G7 := HG6.out.step (Stp.mid K7)
            have hlfl : lf.length ≤ 6 := by
              have h1 := congrArg List.length hlf
              have h2 := newU_le S.its (ys.map itemX)
              have := HYl.out
              rw [List.length_map] at h1 h2
              omega
            have HX : Hid (∀ x ∈ lf, Sl w7 x.1 x.2 ∧ Bs x.2 ∧ ∀ j, x.1.ownBlock = some j → w.heap.size ≤ j ∧ j < w7.heap.size ∧ ¬ FG f6.tot p (.slice ai mi ci) j) := hide (fun x hx => by
              obtain ⟨g1, g2, -⟩ := RF.2 x hx
              have hm := hfo x hx
              have hne : x.2 ≠ [] := by
                have h1 : x.2 ∈ ys.map itemX := by rw [← HLx.out]; exact List.mem_map.2 ⟨x, hm, rfl⟩
                obtain ⟨y, _, e⟩ := List.mem_map.1 h1
                rw [← e]
                exact itemX_ne y
              refine ⟨g1, g2, fun j hj => ?_⟩
              have h1 := HR5.out.2 x hm j hj
              have h2 := sl_lt (HR5.out.1.2 x hm).1 hne hj
              have h3 := HSz0.out
              have h4 := HSz6.out
              have h5 := K7.size
              refine ⟨by omega, by omega, fun e => ?_⟩
              rcases e with e | e | e
              · exact HOff.out j h2 (fun e2 => by have := HFt.out j e2; omega) e
              · have := HAt.out.2.2.2.1; omega
              · have := HVl.out j e; omega)
            have HLs : Hid (Lists w7 (.slice a2 m2 c2) lf) := hide (RF.lists (by omega))
            have H2z : Hid (a2 = none → c2 = 0) := hide (by
              obtain ⟨a', c', e, -, -, h⟩ := (lc_of_owns RF.1 HLs.out).shape
              injection e with e1 e2 e3
              subst e1 e3
              exact h)
            have hbl : (lA.map (·.1)).length + lf.length ≤ 1000000 := by rw [List.length_map]; have := HlA.out; omega
            have HSz : Hid (w.heap.size ≤ w7.heap.size) := hide (by have := HSz0.out; have := HSz5.out; have := HSz6.out; have := K7.size; omega)
            have hc7 : w7.cell? ⟨p, 0, none⟩ = some (.slice ai mi ci) := by rw [cell_of_row w7 p 0 _ _ _ G7.hp]; rfl
            have HG7 := hide G7
            have HL7 := hide (HL6.out.on K7)
            have HRN := hide RN
            have HRI7 := hide (HRI6.out.kept K7 (by simp))
            have HLt7 : Hid (∀ j, f6.tot j → j < w7.heap.size) := hide (fun j hj => by have := HLt6.out j hj; have := K7.size; omega)
            have HLf := hide hlf
            clear HPn RN RF hlf hfo K7 G7 hlfl HG6 HL6 HRI6 HR6 HR5 HLt6 HOff
            go_wp2_with (at_builtin; refine wpList_append_list rfl (.tmp 80) (.tmp 81) rfl w.heap.size (.slice ai mi ci) (lA.map (·.1)) rfl HG7.out.al.row.1.1 a2 m2 c2 lf rfl HLs.out H2z.out hbl HSz.out ?_; intro a8 m8 c8 w8 R8 S8; have hown : ∀ j ∈ (Value.slice ai mi ci).ownBlock.toList, (Value.slice ai mi ci).ownBlock = some j := (fun j hj => by simpa [Option.mem_toList] using hj); have hp8 := S8.1.heap HG7.out.hp (fun hm => (HG7.out.al.own p (hown p hm)).2 (.inr rfl)); have hc8 : w8.cell? ⟨p, 0, none⟩ = some (.slice ai mi ci) := (by rw [cell_of_row w8 p 0 _ _ _ hp8]; rfl); have hf8 : w8.frozen? ⟨p, 0, none⟩ = false := frozen_of_row w8 p 0 _ _ hp8; refine Hid.out ?_)
            have hown : ∀ j ∈ (Value.slice ai mi ci).ownBlock.toList, (Value.slice ai mi ci).ownBlock = some j := fun j hj => by simpa [Option.mem_toList] using hj
            have R8' : RowV w8 w.heap.size (.slice a8 m8 c8) ((lA ++ lf).map (·.1)) := by rw [List.map_append]; exact R8
            obtain ⟨w9, hw9⟩ : ∃ y, y = w8.setCell ⟨p, 0, none⟩ (.slice a8 m8 c8) := ⟨_, rfl⟩
            have K9 : Kp [p] w8 w9 := by rw [hw9]; exact kp_set w8 p 0 _
            have G9 := HG7.out.puts HLt7.out (fun a ha => HLe.out a ha) HX.out R8' S8
            rw [← hw9] at G9
            have HAt9 : Hid (IntsU w9 (.slice at_ mt ct) ns) := hide (by
              have h1 := (HRI7.out.ints (by have := HNl.out; omega)).kept S8.1 (fun i hi hm => by have := (HRI7.out.lt hi).1; have := HVl.out i (hown i hm); have := HSz5.out; omega)
              exact h1.kept K9 (fun i hi hm => by have := (HRI7.out.lt hi).1; have e : i = p := (by simpa using hm); have := HAt.out.2.2.2.1; have := HSz5.out; omega))
            have HWn9 : Hid (IntsU w9 (.slice a1 m1 c1) ns) := hide (by
              have hRN := HRN.out
              rw [← HNs.out] at hRN
              have h1 := (hRN.ints (by have := HNl.out; omega)).kept S8.1 (fun i hi hm => by have := (hRN.lt hi).1; have := HVl.out i (hown i hm); have := HSz5.out; have := HSz6.out; omega)
              exact h1.kept K9 (fun i hi hm => by have := (hRN.lt hi).1; have e : i = p := (by simpa using hm); have := HAt.out.2.2.2.1; have := HSz5.out; have := HSz6.out; omega))
            have HFin : Hid (∀ w', Kp [] w9 w' → PlyI w pd pk p (k + 1) l w') := hide (fun w' k' => by
              have kk := k'
              obtain ⟨e1, e2, e3, e4⟩ := HE.out
              refine ⟨S6, f6, .slice a8 m8 c8, ((HL7.out.beside S8.1 (fun j hj => ⟨HG7.out.al.row.1.1.own j (hown j hj), fun e => (HG7.out.al.own j (hown j hj)).2 (.inl e)⟩)).beside K9 (fun j hj => ?_)).on kk, HP6.out, ?_⟩
              · have e : j = p := by simpa using hj
                rw [e]
                exact ⟨HG7.out.lo, HG7.out.nf⟩
              · rw [e1, e2, e3, e4, allU_new, ← HLf.out]
                exact ⟨og, base, sz, ix, ar, mr, cr, ap, np, cp, aq, nq, cq, lA ++ lf, G9.step (Stp.mid kk)⟩)
            have HSm : Hid (∀ w', Kp [] w9 w' → Calls Tryz.prog 54 #[.slice at_ mt ct, .slice a1 m1 c1] w' fun e w2 => e = .returned (.bool true) ∧ Kp [] w' w2) := hide (fun w' k' => by
              have kk := k'
              refine (isame_any _ _ ns ns w' (HAt9.out.kept kk (by simp)) (HWn9.out.kept kk (by simp)) (by have := HNl.out; omega) (by have := HNl.out; omega)).mono ?_
              rintro e w2 ⟨rfl, k2⟩
              exact ⟨by simp, k2⟩)
            have HW9 := hide hw9
            clear hw9 K9 G9 R8 R8' S8 hown hp8 hc7 HG7 HL7 HRI7 HRN HX HLs H2z hbl HE HP6 HAt9 HWn9
            refine hide ?_
            go_wp2_with fail
            clear hc8 hf8
            refine (HSm.out _ (by rw [HW9.out]; exact Kp.refl _ _)).mono ?_
            rintro ee w10 ⟨rfl, K10⟩
            have HW := hide (HFin.out w10 (by rw [HW9.out]; exact K10))
            clear HSm HFin K10 HW9
            go_wp2_with fail
            go_meet
            case rel => exact ⟨l, rfl, HW⟩
      case rest =>
        obtain ⟨l5, rfl, HI⟩ := hcut
        clear HLg HPl HRf HAt HIy r0 r1
        obtain ⟨S5, f5, v5, L5, P5, R5⟩ := HI.out
        have HTl := hide (rtells_pl p v5 L5 R5 (HG.out.kept L5.kp (by simp)) P5.no)
        clear L5 P5 R5
        go_wp2_with fail
        refine HTl.out.mono ?_
        rintro ee w5 ⟨rfl, K5⟩
        have HW := hide (HI.out.on K5)
        clear HTl K5 HI
        go_wp2_with fail
        go_roundw
        case rel => exact ⟨k + 1, by omega, by omega, by go_num, l5, rfl, HW.out⟩
        case measure => simp [intOf]; omega
    · go_upto_region 9 with fail
      go_cut [50] from 43 to 49 (fun s wc => s = .bool false ∧ wc = wr)
      case first =>
        by_cases hl1 : k < N
        · have hl1' : (k : Int) < (N : Int) := by omega
          have hl2' : ¬ (k : Int) < 14 := by omega
          have hd1 : decide ((k : Int) < (N : Int)) = true := decide_eq_true hl1'
          have hd2 : decide ((k : Int) < 14) = false := decide_eq_false hl2'
          go_wp2_with fail
          go_meet
          exact ⟨rfl, rfl⟩
        · have hl1' : ¬ (k : Int) < (N : Int) := by omega
          have hd1 : decide ((k : Int) < (N : Int)) = false := decide_eq_false hl1'
          go_wp2_with fail
          go_meet
          exact ⟨rfl, rfl⟩
      case rest =>
        obtain ⟨rfl, hwc⟩ := hcut
        subst wc
        clear HC hlm
        have HBy := hide (ubytes_any HLg.out)
        obtain ⟨hB, hl, ho, hr⟩ := HPl.out.read hk14 (fun x hx => (HLg.out.bs x hx).1)
        have HOr := hide (And.intro ho hr)
        have HB := hide hB
        have HLn := hide hl
        clear hB hl ho hr
        go_wp2_with fail
        refine HBy.out.mono ?_
        rintro ee w5 ⟨ab, mb, cb, rfl, R5, K5⟩
        have HRd := hide (rread_any (.slice ab mb cb) S.dd.bs w5 R5.sl HB.out HLn.out true (by rw [HOr.out.1, HOr.out.2]; rfl))
        have HK5 := hide K5
        clear HBy R5 K5
        go_wp2_with fail
        refine HRd.out.mono ?_
        rintro ee w6 ⟨a6, m6, c6, rfl, K6, h6⟩
        obtain ⟨hm6, l6, R6, hl6⟩ := h6 S.its trivial HOr.out.2
        have HK6 := hide (HK5.out.trans K6)
        obtain ⟨og, base, sz, ix, ar, mr, cr, ap, np, cp, aq, nq, cq, lA, G6⟩ := HRf.out.step (Stp.mid HK6.out)
        have hfew := HLg.out.few
        have hlA : lA.length ≤ 256 := by rw [← List.length_map (f := (·.2)), G6.it]; exact hfew
        have hl6l : l6.length ≤ 256 := by rw [← List.length_map (f := (·.2)), hl6]; exact hfew
        have hc6 : ∀ w', Kp [] w6 w' → w'.cell? ⟨p, 0, none⟩ = some vi := fun w' k' => by rw [cell_of_row w' p 0 _ _ _ (k'.heap G6.hp (by simp))]; rfl
        obtain ⟨ai, ci, hvi⟩ := G6.al.row.1.1.shape
        obtain ⟨mi, hmi⟩ : ∃ m, m = (lA.map (·.1)).length := ⟨_, rfl⟩
        rw [← hmi] at hvi
        subst hvi
        have HLi : Hid (∀ w', Kp [] w6 w' → Calls Tryz.prog 27 #[.slice a6 m6 c6, .slice ai mi ci] w' fun e w2 => e = .returned (.bool true) ∧ Kp [] w' w2) := hide (fun w' k' => lists_any _ _ l6 lA (by rw [hl6, G6.it]) w' ((R6.lists (by omega)).kept k') ((G6.al.row.lists (by omega)).kept k'))
        have HC6 := hide hc6
        have c6a := hc6 w6 (Kp.refl _ _)
        have HKz := hide HLg.out.kp
        clear HRd hm6 R6 hl6 K6 G6 hfew hlA hl6l hc6 hmi h6 HLg HPl HRf
        go_wp2_with fail
        refine (HLi.out _ (Kp.refl _ _)).mono ?_
        rintro ee w7 ⟨rfl, K7⟩
        have HK7 := hide ((HKz.out.trans HK6.out).trans K7)
        clear HLi HC6 c6a HK6 HKz K7
        go_wp2_with fail
        go_ret
        exact ⟨rfl, HK7.out⟩
end Go.Proofs.YtillhpgdlmeajaaGreatDoor

/-
  Ledgers whose power may go: Add, Publish, what a crash leaves.
-/
import Derived.Test.YtillhpgdlmeajaaGreatDoorKUDsk
import Derived.Test.YtillhpgdlmeajaaGreatDoorKKSt
import Derived.Test.YtillhpgdlmeajaaGreatDoorKVRead
namespace Go.Proofs.YtillhpgdlmeajaaGreatDoor
open Go.RowKit
open Go.Proofs
set_option linter.unusedVariables false

/-- records rs stand on the disk, power goes at the a-th call. -/
def upL (rs : List (List Int)) (a : Int) : Dk := ⟨layP rs, (layP rs).length, 1048576, a, false⟩
/-- power went while r was added. -/
def dnL (rs : List (List Int)) (r : List Int) : Dk := ⟨layP (rs ++ [r]), (layP rs).length, 1048576, 0, true⟩
theorem upL_zero (rs : List (List Int)) : upL rs 0 = dkOn (layP rs) := rfl
theorem upL_arm (a : Int) (h : 0 ≤ a) : (dkOn []).armed (max a 0) = upL [] a := by
  unfold Dk.armed
  rw [if_neg (by show ¬ false = true; decide)]
  show (⟨[], 0, 1048576, max a 0, false⟩ : Dk) = _
  rw [show max a 0 = a by omega]
  rfl
theorem ld_add (rs : List (List Int)) (r : List Int) (a : Int) (ha : 0 ≤ a) (hfit : (layP rs).length + (recP r).length ≤ 1048576) : ∃ er d', (upL rs a).add (recP r) = (er, d') ∧ ((er = true ∧ ∃ a', 0 ≤ a' ∧ d' = upL (rs ++ [r]) a') ∨ (er = false ∧ d' = dnL rs r)) := by
  have hf : (((upL rs a).bs.length + (recP r).length : Nat) : Int) ≤ (upL rs a).lim := by
    show (((layP rs).length + (recP r).length : Nat) : Int) ≤ 1048576
    omega
  by_cases h0 : a = 0
  · subst h0
    refine ⟨true, upL (rs ++ [r]) 0, ?_, .inl ⟨rfl, 0, Int.le_refl 0, rfl⟩⟩
    rw [Dk.add_up (d := upL rs 0) rfl (Int.le_refl 0) (recP r) hf]
    show (true, (⟨layP rs ++ recP r, (layP rs ++ recP r).length, 1048576, 0, false⟩ : Dk)) = _
    rw [← layP_snoc]
    rfl
  · by_cases h1 : a = 1
    · subst h1
      refine ⟨false, dnL rs r, ?_, .inr ⟨rfl, rfl⟩⟩
      unfold Dk.add
      rw [Dk.app_at (d := upL rs 1) rfl rfl (recP r) hf, if_neg (by simp)]
      show (false, (⟨layP rs ++ recP r, (layP rs).length, 1048576, 0, true⟩ : Dk)) = _
      rw [← layP_snoc]
      rfl
    · have hc : (upL rs a).cal = (true, false, upL rs (a - 1)) := by
        unfold Dk.cal
        rw [if_neg (by show ¬ false = true; decide), if_pos (by show 0 < a; omega), if_neg (by show ¬ a = 1; omega)]
        rfl
      have happ : (upL rs a).app (recP r) = (true, ⟨layP (rs ++ [r]), (layP rs).length, 1048576, a - 1, false⟩) := by
        unfold Dk.app
        rw [hc, if_neg (by simp; omega)]
        show (true, (⟨layP rs ++ recP r, (layP rs).length, 1048576, a - 1, false⟩ : Dk)) = _
        rw [← layP_snoc]
      by_cases h2 : a = 2
      · subst h2
        refine ⟨false, dnL rs r, ?_, .inr ⟨rfl, rfl⟩⟩
        unfold Dk.add
        rw [happ, if_pos rfl]
        rfl
      · refine ⟨true, upL (rs ++ [r]) (a - 2), ?_, .inl ⟨rfl, a - 2, by omega, rfl⟩⟩
        unfold Dk.add
        rw [happ, if_pos rfl]
        have hc2 : (⟨layP (rs ++ [r]), (layP rs).length, 1048576, a - 1, false⟩ : Dk).cal = (true, false, ⟨layP (rs ++ [r]), (layP rs).length, 1048576, a - 1 - 1, false⟩) := by
          unfold Dk.cal
          rw [if_neg (by show ¬ false = true; decide), if_pos (by show 0 < a - 1; omega), if_neg (by show ¬ a - 1 = 1; omega)]
        show Dk.sync _ = _
        unfold Dk.sync
        rw [hc2, if_pos rfl]
        show (true, (⟨layP (rs ++ [r]), (layP (rs ++ [r])).length, 1048576, a - 1 - 1, false⟩ : Dk)) = _
        rw [show a - 1 - 1 = a - 2 by omega]
        rfl
/-- the items its stand on the disk; und is the batch that was under way when power went. -/
structure Ld (d : Dk) (its und : List (List Int)) (B : Nat) : Prop where
  ex : ∃ rs, gatU [] rs = some its ∧ (∀ r ∈ rs, Bs r ∧ r.length ≤ 65535) ∧ (layP rs).length ≤ B ∧ ((und = [] ∧ ∃ a, 0 ≤ a ∧ d = upL rs a) ∨ (und ≠ [] ∧ d = dnL rs (batU und)))
  nd : (its ++ und).Nodup
  ub : ∀ x ∈ und, Bs x ∧ x.length ≤ 65535
  us : (batU und).length ≤ 65535
  few : (its ++ und).length ≤ 256
theorem Ld.more {d : Dk} {its und : List (List Int)} {B B' : Nat} (h : Ld d its und B) (hb : B ≤ B') : Ld d its und B' := by
  obtain ⟨rs, h1, h2, h3, h4⟩ := h.ex
  exact ⟨⟨rs, h1, h2, by omega, h4⟩, h.nd, h.ub, h.us, h.few⟩
section
variable {w0 w : World} {l pd pk : Nat} {S : LS} {f : Fps}
/-- what Add did. -/
def AddC (w0 w w' : World) (l pd pk : Nat) (S : LS) (f : Fps) (xs und : List (List Int)) (B : Nat) (en : Int) : Prop :=
  ∃ S' f' und', Lg w0 w' l pd pk S' f' ∧ LSt w f w' f' ∧ Ld S'.dd S'.its und' B ∧ S'.n = S.n ∧ S'.seed = S.seed ∧ S'.la = S.la ∧ S'.dk = S.dk ∧ S'.mb = S.mb ∧ S'.mj ≤ S.mj + 1 ∧
    ((en = 0 ∧ S'.its = allU S.its xs ∧ und' = und) ∨ (en = 13 ∧ newU S.its xs ≠ [] ∧ S'.its = S.its ∧ ((und = [] ∧ und' = newU S.its xs) ∨ (und ≠ [] ∧ und' = und))))
theorem uadd_cr (h : Lg w0 w l pd pk S f) (und : List (List Int)) (B m : Nat) (hd : Ld S.dd S.its und B) (hmj : S.mj ≤ 1000) (vi : Value) (li : List (Value × List Int)) (xs : List (List Int)) (hxs : li.map (·.2) = xs) (hL : Lists w vi li) (hl : ∀ x ∈ xs, x.length ≤ m) (hm : m ≤ 65535) (hn : xs.length ≤ 1000) (h256 : (allU S.its xs).length ≤ 256) (hb : 4 + xs.length * (2 + m) ≤ 65535) (hB : B + (12 + xs.length * (2 + m)) ≤ 1048576) :
    Calls Tryz.prog 15 #[.pointer (some ⟨l, 0, none⟩), vi] w fun e w' => ∃ vr en, e = .returned (.tuple #[vr, .int .i64 en]) ∧ AddC w0 w w' l pd pk S f xs und (B + (12 + xs.length * (2 + m))) en := by
  have hxB : ∀ x ∈ xs, Bs x := fun x hx => by
    obtain ⟨y, hy, rfl⟩ := List.mem_map.1 (hxs ▸ hx)
    exact hL.bs y hy
  by_cases h0 : newU S.its xs = []
  · refine (uadd_none h vi li xs hxs hL (fun x hx => by have := hl x hx; omega) hn h0).mono ?_
    rintro e w' ⟨vr, rfl, R, K⟩
    refine ⟨vr, 0, rfl, S, f, und, h.on K, Stp.mid K, hd.more (by omega), rfl, rfl, rfl, rfl, rfl, by omega, .inl ⟨rfl, ?_, rfl⟩⟩
    rw [allU_new, h0, List.append_nil]
  · have hnl := newU_le S.its xs
    have hnx : ∀ x ∈ newU S.its xs, Bs x ∧ x.length ≤ m := fun x hx => by have := (newU_mem h.nd hx).1; exact ⟨hxB x this, hl x this⟩
    have hlen := batU_len (newU S.its xs) m (fun x hx => (hnx x hx).2)
    have hmul : (newU S.its xs).length * (2 + m) ≤ xs.length * (2 + m) := Nat.mul_le_mul_right _ hnl
    obtain ⟨rs, hg, hrB, hrl, hst⟩ := hd.ex
    rcases hst with ⟨hu, a, ha, hdd⟩ | ⟨hu, hdd⟩
    · subst hu
      obtain ⟨er, d', hadd, hcs⟩ := ld_add rs (batU (newU S.its xs)) a ha (by rw [recP_len]; omega)
      rw [← hdd] at hadd
      refine (uadd_any h vi li xs hxs hL (fun x hx => by have := hl x hx; omega) hn h256 h0 hmj (by omega) er d' hadd).mono ?_
      rintro e w' ⟨vr, en, rfl, hen, -, f', L, T, -⟩
      rcases hcs with ⟨rfl, a', ha', rfl⟩ | ⟨rfl, rfl⟩
      · have hbat : ∀ r ∈ rs ++ [batU (newU S.its xs)], Bs r ∧ r.length ≤ 65535 := fun r hr => by
          rcases List.mem_append.1 hr with hr | hr
          · exact hrB r hr
          · obtain rfl : r = batU (newU S.its xs) := by simpa using hr
            exact ⟨batU_bs (fun x hx => (hnx x hx).1), by omega⟩
        have hnd2 : (S.its ++ newU S.its xs).Nodup := by rw [← allU_new]; exact allU_nodup h.nd
        refine ⟨vr, en, rfl, _, f', [], L, T, ⟨⟨rs ++ [batU (newU S.its xs)], ?_, hbat, ?_, .inl ⟨rfl, a', ha', rfl⟩⟩, ?_, (fun x hx => by cases hx), by simp [batU, bq_len], ?_⟩, rfl, rfl, rfl, rfl, rfl, Nat.le_refl _, .inl ⟨by rw [hen]; rfl, rfl, rfl⟩⟩
        · show gatU [] _ = some (allU S.its xs)
          rw [allU_new]
          exact gatU_add hg hnd2 h0 (fun x hx => by have := (hnx x hx).2; omega) (by omega)
        · rw [layP_snoc, List.length_append, recP_len]; omega
        · show (allU S.its xs ++ []).Nodup
          rw [List.append_nil]; exact allU_nodup h.nd
        · show (allU S.its xs ++ []).length ≤ 256
          rw [List.append_nil]; exact h256
      · have hnd2 : (S.its ++ newU S.its xs).Nodup := by rw [← allU_new]; exact allU_nodup h.nd
        refine ⟨vr, en, rfl, _, f', newU S.its xs, L, T, ⟨⟨rs, hg, hrB, by omega, .inr ⟨h0, rfl⟩⟩, hnd2, fun x hx => ⟨(hnx x hx).1, by have := (hnx x hx).2; omega⟩, by omega, ?_⟩, rfl, rfl, rfl, rfl, rfl, Nat.le_refl _, .inr ⟨by rw [hen]; rfl, h0, rfl, .inl ⟨rfl, rfl⟩⟩⟩
        show (S.its ++ newU S.its xs).length ≤ 256
        rw [← allU_new]; exact h256
    · have hadd : S.dd.add (recP (batU (newU S.its xs))) = (false, S.dd) := Dk.add_down (by rw [hdd]; rfl) _
      refine (uadd_any h vi li xs hxs hL (fun x hx => by have := hl x hx; omega) hn h256 h0 hmj (by omega) false S.dd hadd).mono ?_
      rintro e w' ⟨vr, en, rfl, hen, -, f', L, T, -⟩
      exact ⟨vr, en, rfl, _, f', und, L, T, ⟨⟨rs, hg, hrB, by omega, .inr ⟨hu, hdd⟩⟩, hd.nd, hd.ub, hd.us, hd.few⟩, rfl, rfl, rfl, rfl, rfl, Nat.le_refl _, .inr ⟨by rw [hen]; rfl, h0, rfl, .inr ⟨hu, rfl⟩⟩⟩
/-- the key that was told last; -1. -/
def UsedI (S : LS) (u : Int) : Prop := (S.la = none ∧ u = -1) ∨ ∃ a, S.la = some a ∧ u = (a.2 : Int) ∧ a.2 < S.n
/-- what Publish did. -/
def PubC (w0 w w' : World) (l pd pk : Nat) (S : LS) (f : Fps) (u i en : Int) : Prop :=
  ∃ S' f', Lg w0 w' l pd pk S' f' ∧ LSt w f w' f' ∧ Stn S'.dk S'.n ∧ S'.its = S.its ∧ S'.dd = S.dd ∧ S'.seed = S.seed ∧ S'.mj = S.mj ∧ S'.mb ≤ S.mb + 1 ∧ ((en = 0 ∧ u ≤ i ∧ UsedI S' i) ∨ ((en = 13 ∨ en = 23) ∧ UsedI S' u))
theorem upub_cr (h : Lg w0 w l pd pk S f) (hG : Gl w0) (hst : Stn S.dk S.n) (hmb : S.mb ≤ 1000) (u : Int) (hu : UsedI S u) :
    Calls Tryz.prog 33 #[.pointer (some ⟨l, 0, none⟩)] w fun e w' => ∃ (n i en : Int) (ar : Option Addr) (mr cr : Nat) (ap : Option Addr) (np cp : Nat) (aq : Option Addr) (nq cq : Nat), e = .returned (.tuple #[.agg #[.int .i64 n, .slice ar mr cr, .int .i64 i, .slice ap np cp, .slice aq nq cq], .int .i64 en]) ∧ PubC w0 w w' l pd pk S f u i en := by
  have hnk := h.nk
  have old : ∀ {e : Ending} {w' : World}, (e = .returned (.tuple #[sgd0, .int .i64 23]) ∧ Kp [] w w') → ∃ (n i en : Int) (ar : Option Addr) (mr cr : Nat) (ap : Option Addr) (np cp : Nat) (aq : Option Addr) (nq cq : Nat), e = .returned (.tuple #[.agg #[.int .i64 n, .slice ar mr cr, .int .i64 i, .slice ap np cp, .slice aq nq cq], .int .i64 en]) ∧ PubC w0 w w' l pd pk S f u i en := by
    rintro e w' ⟨rfl, K⟩
    exact ⟨0, 0, 23, none, 0, 0, none, 0, 0, none, 0, 0, rfl, S, f, h.on K, Stp.mid K, hst, rfl, rfl, rfl, rfl, by omega, .inr ⟨.inr rfl, hu⟩⟩
  have new : ∀ (hn : S.n < 16) (hlt : u < S.n) {er : Bool} {dk' : Dk} (hs2 : Stn dk' (if er then S.n + 1 else S.n)) {e : Ending} {w' : World}, (∃ v en, e = .returned (.tuple #[v, .int .i64 en]) ∧ en = (if er = true then 0 else 13) ∧ ∃ f', Lg w0 w' l pd pk { S with dk := dk', mb := S.mb + 1, n := if er = true then S.n + 1 else S.n, la := if er = true then some (S.its.length, S.n) else S.la } f' ∧ LSt w f w' f' ∧ ∃ b, (∀ i, f'.tot i → i < b) ∧ w.heap.size ≤ b ∧ b ≤ w'.heap.size ∧ (if er = true then SgU b w' v (sgU S.seed S.its (S.its.length, S.n)) else v = sgd0)) → ∃ (n i en : Int) (ar : Option Addr) (mr cr : Nat) (ap : Option Addr) (np cp : Nat) (aq : Option Addr) (nq cq : Nat), e = .returned (.tuple #[.agg #[.int .i64 n, .slice ar mr cr, .int .i64 i, .slice ap np cp, .slice aq nq cq], .int .i64 en]) ∧ PubC w0 w w' l pd pk S f u i en := by
    rintro hn hlt er dk' hs2 e w' ⟨v, en, rfl, rfl, f', L, T, b, -, -, -, A⟩
    cases er
    · obtain rfl : v = sgd0 := A
      exact ⟨0, 0, 13, none, 0, 0, none, 0, 0, none, 0, 0, rfl, _, f', L, T, hs2, rfl, rfl, rfl, rfl, Nat.le_refl _, .inr ⟨.inl rfl, hu⟩⟩
    · simp only [if_true] at A
      obtain ⟨ar, mr, cr, ap, np, cp, aq, nq, cq, rfl, -, -⟩ := A.v.shape
      exact ⟨_, _, 0, ar, mr, cr, ap, np, cp, aq, nq, cq, rfl, _, f', L, T, hs2, rfl, rfl, rfl, rfl, Nat.le_refl _, .inl ⟨rfl, Int.le_of_lt hlt, .inr ⟨(S.its.length, S.n), rfl, rfl, Nat.lt_succ_self _⟩⟩⟩
  have hlt : u < S.n := by
    rcases hu with ⟨-, rfl⟩ | ⟨a, -, rfl, h2⟩ <;> omega
  cases hs : S.la with
  | none =>
    by_cases h16 : S.n = 16
    · exact (upub_usedN h hs h16).mono (fun _ _ x => old x)
    · obtain ⟨er, d', hadd, hs2⟩ := stn_take hst (by omega)
      exact (upub_anyN h hG hs (by omega) hmb er d' hadd).mono (fun _ _ x => new (by omega) hlt hs2 x)
  | some a =>
    obtain ⟨a1, a2⟩ := a
    by_cases ha : a1 = S.its.length
    · refine (upublish_old h a1 a2 hs ha).mono ?_
      rintro e w' ⟨v, rfl, A, K⟩
      obtain ⟨ar, mr, cr, ap, np, cp, aq, nq, cq, rfl, -, -⟩ := A.v.shape
      refine ⟨_, _, 0, ar, mr, cr, ap, np, cp, aq, nq, cq, rfl, S, f, h.on K, Stp.mid K, hst, rfl, rfl, rfl, rfl, by omega, .inl ⟨rfl, ?_, ?_⟩⟩
      · show u ≤ (a2 : Int)
        rcases hu with ⟨h1, -⟩ | ⟨a, h1, rfl, h2⟩
        · rw [hs] at h1; cases h1
        · rw [hs] at h1; injection h1 with h1; rw [← h1]; exact Int.le_refl _
      · rcases hu with ⟨h1, -⟩ | ⟨a, h1, h3, h2⟩
        · rw [hs] at h1; cases h1
        · rw [hs] at h1; injection h1 with h1
          refine .inr ⟨(a1, a2), hs, rfl, ?_⟩
          rw [← h1] at h2; exact h2
    · by_cases h16 : S.n = 16
      · exact (upub_usedS h a1 a2 hs ha h16).mono (fun _ _ x => old x)
      · obtain ⟨er, d', hadd, hs2⟩ := stn_take hst (by omega)
        exact (upub_anyS h hG a1 a2 hs ha (by omega) hmb er d' hadd).mono (fun _ _ x => new (by omega) hlt hs2 x)
end
/-- what a crash leaves of a ledger's disk. -/
theorem ld_crash {d : Dk} {its und : List (List Int)} {B : Nat} (h : Ld d its und B) (keep : Int) : ∃ rs at_ its', (d.crash keep).down = false ∧ (d.crash keep).arm = 0 ∧ opnP (d.crash keep).bs = (rs, at_, true) ∧ gatU [] rs = some its' ∧ (its' = its ∨ its' = its ++ und) ∧ its'.length ≤ 256 ∧ (∀ r ∈ rs, Bs r) ∧ rs.length ≤ (d.crash keep).bs.length ∧ lenU rs ≤ (d.crash keep).bs.length ∧ (d.crash keep).bs.length ≤ B + (8 + 65535) := by
  obtain ⟨rs, hg, hrB, hrl, hst⟩ := h.ex
  have hsh : ∀ r ∈ rs, r.length ≤ 65535 := fun r hr => (hrB r hr).2
  have hfew := h.few
  have key : ∀ (Bl : List (List Int)), (∀ r ∈ Bl, Bs r ∧ r.length ≤ 65535) → (layP Bl).length ≤ 8 + 65535 → Bl.length ≤ 1 → (∀ its', gatU [] (rs ++ Bl) = some its' → its' = its ∨ its' = its ++ und) → (∃ its', gatU [] (rs ++ Bl) = some its') → d.crash keep = (⟨layP (rs ++ Bl), (layP rs).length, 1048576, 0, false⟩ : Dk).crash keep → ∃ rs at_ its', (d.crash keep).down = false ∧ (d.crash keep).arm = 0 ∧ opnP (d.crash keep).bs = (rs, at_, true) ∧ gatU [] rs = some its' ∧ (its' = its ∨ its' = its ++ und) ∧ its'.length ≤ 256 ∧ (∀ r ∈ rs, Bs r) ∧ rs.length ≤ (d.crash keep).bs.length ∧ lenU rs ≤ (d.crash keep).bs.length ∧ (d.crash keep).bs.length ≤ B + (8 + 65535) := by
    intro Bl hB hBl hB1 hg2 hg3 hc
    obtain ⟨q, jj, h1, h2, h3, h4, h5, h6⟩ := crash_lay rs Bl keep hsh (fun r hr => (hB r hr).2)
    have hbs : (d.crash keep).bs = (layP (rs ++ Bl)).take q := by rw [hc, h2]
    have hlen : ((layP (rs ++ Bl)).take q).length ≤ B + (8 + 65535) := by
      have : (layP (rs ++ Bl)).length = (layP rs).length + (layP Bl).length := by rw [layP_append, List.length_append]
      rw [List.length_take]
      omega
    have hcnt := opnP_len ((layP (rs ++ Bl)).take q)
    rw [h5] at hcnt
    have hits : ∃ its', gatU [] ((rs ++ Bl).take jj) = some its' ∧ (its' = its ∨ its' = its ++ und) := by
      by_cases hj : jj = rs.length
      · rw [hj, List.take_left' rfl]
        exact ⟨its, hg, .inl rfl⟩
      · have : jj = (rs ++ Bl).length := by rw [List.length_append]; omega
        rw [this, List.take_length]
        obtain ⟨i2, hi2⟩ := hg3
        exact ⟨i2, hi2, hg2 i2 hi2⟩
    obtain ⟨i2, hi2, hor⟩ := hits
    refine ⟨_, _, i2, by rw [hc, h2], by rw [hc, h2], by rw [hbs]; exact h5, hi2, hor, ?_, ?_, ?_, ?_, by rw [hbs]; exact hlen⟩
    · rcases hor with rfl | rfl
      · rw [List.length_append] at hfew; omega
      · exact hfew
    · intro r hr
      rcases List.mem_append.1 (List.mem_of_mem_take hr) with hr | hr
      · exact (hrB r hr).1
      · exact (hB r hr).1
    · rw [hbs]
      have h8 := opnP_cnt ((layP (rs ++ Bl)).take q)
      rw [h5] at h8
      simp only at h8
      omega
    · rw [hbs]; exact hcnt
  rcases hst with ⟨rfl, a, ha, rfl⟩ | ⟨hu, rfl⟩
  · refine key [] (by simp) (by simp [layP]) (by simp) (fun i2 h2 => ?_) ⟨its, by rw [List.append_nil]; exact hg⟩ (by rw [List.append_nil]; rfl)
    rw [List.append_nil, hg] at h2
    injection h2 with h2
    exact .inl h2.symm
  · have hadd := gatU_add hg h.nd hu (fun x hx => (h.ub x hx).2) (by have := h.few; rw [List.length_append] at this; omega)
    refine key [batU und] (fun r hr => ?_) (by simp only [layP, List.map_cons, List.map_nil, List.flatten_cons, List.flatten_nil, List.append_nil, recP_len]; have := h.us; omega) (by simp) (fun i2 h2 => ?_) ⟨_, hadd⟩ rfl
    · obtain rfl : r = batU und := by simpa using hr
      exact ⟨batU_bs (fun x hx => (h.ub x hx).1), h.us⟩
    · rw [hadd] at h2
      injection h2 with h2
      exact .inr h2.symm
end Go.Proofs.YtillhpgdlmeajaaGreatDoor

/-
  Chapter 14 as plain functions: the records of the first keys.
-/
import Derived.Test.YtillhpgdlmeajaaGreatDoorKJArg
import Derived.Test.YtillhpgdlmeajaaGreatDoorKJApp
namespace Go.Proofs.YtillhpgdlmeajaaGreatDoor
/-- the records of the first n keys. -/
def keyL (n : Nat) : List (List Int) := (List.range n).map (fun (i : Nat) => [(i : Int)])
theorem keyL_len (n : Nat) : (keyL n).length = n := by simp [keyL]
theorem keyL_succ (n : Nat) : keyL (n + 1) = keyL n ++ [[(n : Int)]] := by simp [keyL, List.range_succ]
theorem keyL_get {n i : Nat} (h : i < n) : (keyL n)[i]'(by rw [keyL_len]; exact h) = [(i : Int)] := by simp [keyL]
theorem keyL_take {n k : Nat} (h : k ≤ n) : (keyL n).take k = keyL k := by
  refine List.ext_getElem (by simp [keyL_len]; omega) (fun i h1 h2 => ?_)
  rw [keyL_len] at h2
  rw [List.getElem_take, keyL_get h2, keyL_get (by omega)]
theorem keyL_short (n : Nat) : ∀ r ∈ keyL n, r.length ≤ 65535 := fun r hr => by
  obtain ⟨i, -, rfl⟩ := List.mem_map.1 hr
  simp
/-- their bytes. -/
def klay (n : Nat) : List Int := layP (keyL n)
theorem klay_succ (n : Nat) : klay (n + 1) = klay n ++ recP [(n : Int)] := by unfold klay; rw [keyL_succ, layP_snoc]
theorem klay_len (n : Nat) : (klay n).length = 9 * n := by
  induction n with
  | zero => rfl
  | succ n ih => rw [klay_succ, List.length_append, ih, recP_len]; simp; omega
theorem klay_bs {n : Nat} (h : n ≤ 256) : Bs (klay n) := layP_bs (fun r hr => by
  obtain ⟨i, hi, rfl⟩ := List.mem_map.1 hr
  have := List.mem_range.1 hi
  intro b hb
  simp at hb
  omega)
theorem klay_opn (n : Nat) : opnP (klay n) = (keyL n, 9 * n, true) := by
  have := opnP_all (keyL n) (keyL_short n)
  rw [← klay_len n]
  exact this
theorem klay_dk (n : Nat) : (dkOn (klay n)).opn = dkOn (klay n) := Dk.opn_all (keyL n) (keyL_short n)
/-- are these the records of the first keys. -/
def inOrd (rs : List (List Int)) : Bool := decide (rs.length ≤ 16) && decide (rs = keyL rs.length)
theorem inOrd_key {n : Nat} (h : n ≤ 16) : inOrd (keyL n) = true := by simp [inOrd, keyL_len, h]
theorem inOrd_eq {rs : List (List Int)} (h : inOrd rs = true) : rs.length ≤ 16 ∧ rs = keyL rs.length := by simpa [inOrd] using h
/-- up to place i they are. -/
def ordTo (rs : List (List Int)) (i : Nat) : Prop := rs.take i = keyL i
theorem ordTo_zero (rs : List (List Int)) : ordTo rs 0 := by simp [ordTo, keyL]
theorem ordTo_succ {rs : List (List Int)} {i : Nat} (h : ordTo rs i) (hi : i < rs.length) (e : rs[i] = [(i : Int)]) : ordTo rs (i + 1) := by
  unfold ordTo at h ⊢
  rw [List.take_succ_eq_append_getElem hi, h, e, keyL_succ]
theorem ordTo_all {rs : List (List Int)} (h : ordTo rs rs.length) (h16 : rs.length ≤ 16) : inOrd rs = true := by
  unfold ordTo at h
  rw [List.take_length] at h
  simp only [inOrd, Bool.and_eq_true, decide_eq_true_eq]
  exact ⟨h16, h⟩
theorem inOrd_not {rs : List (List Int)} {i : Nat} (hi : i < rs.length) (e : rs[i] ≠ [(i : Int)]) : inOrd rs = false := by
  cases h : inOrd rs with
  | false => rfl
  | true =>
    obtain ⟨-, h2⟩ := inOrd_eq h
    have h3 : rs[i]? = (keyL rs.length)[i]? := by rw [← h2]
    rw [List.getElem?_eq_getElem hi, List.getElem?_eq_getElem (by rw [keyL_len]; exact hi), keyL_get hi] at h3
    exact absurd (Option.some.inj h3) e
theorem inOrd_long {rs : List (List Int)} (h : 16 < rs.length) : inOrd rs = false := by
  have : ¬ rs.length ≤ 16 := by omega
  simp [inOrd, this]
namespace Dk
/-- a key's record is added where there is room and power. -/
theorem add_up {d : Dk} (h : d.down = false) (ha : d.arm ≤ 0) (b : List Int) (hf : ((d.bs.length + b.length : Nat) : Int) ≤ d.lim) : d.add b = (true, { d with bs := d.bs ++ b, syn := (d.bs ++ b).length }) := by
  unfold add
  rw [app_plain h ha b hf, if_pos rfl]
  exact sync_plain (d := { d with bs := d.bs ++ b }) h ha
theorem add_full {d : Dk} (h : d.down = false) (ha : d.arm ≤ 0) (b : List Int) (hf : d.lim < ((d.bs.length + b.length : Nat) : Int)) : d.add b = (false, d) := by
  unfold add
  rw [app_full h ha b hf, if_neg (by simp)]
theorem add_down {d : Dk} (h : d.down = true) (b : List Int) : d.add b = (false, d) := by
  unfold add
  rw [app_down h b, if_neg (by simp)]
end Dk
theorem kadd_on {n : Nat} (h : n < 16) : (dkOn (klay n)).add (recP [(n : Int)]) = (true, dkOn (klay (n + 1))) := by
  rw [klay_succ]
  exact Dk.add_on _ _ (by rw [klay_len, recP_len]; simp; omega)
end Go.Proofs.YtillhpgdlmeajaaGreatDoor

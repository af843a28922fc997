/-
  math/bits.Len of every number.
-/
import Derived.Lib.BitFns
import Derived.Lib.Slices
import Derived.Lib.Small
import Derived.Lib.Strings
import Derived.Lib.Walk
import Derived.Test.YtillhpgdlmeajaaGreatDoorQC1
namespace Go.Proofs.YtillhpgdlmeajaaGreatDoor
open Go.RowKit
theorem len_tab (q : Int) (hi : q.toNat < Lib.len8tab.size) : (((Lib.len8tab[q.toNat]'hi).toNat : Nat) : Int) = Lib.len8 q := by
  simp only [Lib.len8, ByteArray.getElem?_lt' _ _ hi, Option.getD_some]
/-- x without its lowest k bits is a byte: so long is x. -/
theorem len_way (k d : Nat) (x q : Int) (hd : d = 2 ^ k) (hk56 : k ≤ 56) (h0 : 0 ≤ x) (h1 : x ≤ 18446744073709551615) (hk : k = 0 ∨ (d : Int) ≤ x) (hq : q = x / (d : Int)) (hb : q ≤ 255) (z : Int) (hz : z = Lib.len8 q) : wrap64 ((k : Int) + wrap64 z) = (Lib.bitLen x.toNat : Int) := by
  have hq0 : 0 ≤ q := by rw [hq]; exact Int.ediv_nonneg h0 (Int.natCast_nonneg _)
  have e1 := Lib.len8_of q hq0 hb
  have e2 := Lib.bitLen_le8' q hq0 hb
  have e3 : q.toNat = x.toNat / d := by
    rw [hq]
    obtain ⟨n, rfl⟩ := Int.eq_ofNat_of_zero_le h0
    rw [← Int.natCast_ediv]; exact Int.toNat_natCast _
  have e4 : Lib.bitLen x.toNat = k + Lib.bitLen q.toNat := by
    rw [e3, hd]
    rcases hk with rfl | hk
    · rw [Nat.pow_zero, Nat.div_one, Nat.zero_add]
    · exact Lib.bitLen_shift k x.toNat (by rw [← hd]; omega) (by clear hd e3; omega)
  rw [hz, e1, e4]
  clear hz e1 e4 e3 hq hd
  unfold wrap64
  omega
set_option maxHeartbeats 4000000 in
set_option maxRecDepth 100000 in
theorem len64_any (x : Int) (w : World) (h0 : 0 ≤ x) (h1 : x ≤ 18446744073709551615) : Calls Tryz.prog 163 #[.int .u64 x] w fun e w' => e = .returned (.int .i64 (Lib.bitLen x.toNat)) ∧ w' = w := by
  have hs := Lib.len8tab_size
  go_enter Tryz.func163, Tryz.ntmps163
  go_wp2
  all_goals first
    | (exfalso; omega)
    | (go_ret; refine ⟨congrArg Ending.returned (congrArg (Value.int IntKind.i64) ?_), rfl⟩)
  all_goals first
    | exact len_way 56 72057594037927936 x _ (by decide) (by omega) h0 h1 (by omega) (by omega) (by omega) _ (len_tab _ _)
    | exact len_way 48 281474976710656 x _ (by decide) (by omega) h0 h1 (by omega) (by omega) (by omega) _ (len_tab _ _)
    | exact len_way 40 1099511627776 x _ (by decide) (by omega) h0 h1 (by omega) (by omega) (by omega) _ (len_tab _ _)
    | exact len_way 32 4294967296 x _ (by decide) (by omega) h0 h1 (by omega) (by omega) (by omega) _ (len_tab _ _)
    | exact len_way 24 16777216 x _ (by decide) (by omega) h0 h1 (by omega) (by omega) (by omega) _ (len_tab _ _)
    | exact len_way 16 65536 x _ (by decide) (by omega) h0 h1 (by omega) (by omega) (by omega) _ (len_tab _ _)
    | exact len_way 8 256 x _ (by decide) (by omega) h0 h1 (by omega) (by omega) (by omega) _ (len_tab _ _)
    | (have e := len_way 0 1 x x (by decide) (by omega) h0 h1 (by omega) (by omega) (by omega) _ (len_tab x (by omega))
       rw [show (((0 : Nat) : Int) + _ : Int) = _ from Int.zero_add _] at e
       exact e)
theorem len_any (x : Int) (w : World) (h0 : 0 ≤ x) (h1 : x ≤ 18446744073709551615) : Calls Tryz.prog 143 #[.int .u64 x] w fun e w' => e = .returned (.int .i64 (Lib.bitLen x.toNat)) ∧ w' = w := by
  go_enter Tryz.func143, Tryz.ntmps143
  go_wp2_with (go_at_call 163; refine (len64_any x _ h0 h1).mono ?_; rintro e w' ⟨rfl, rfl⟩)
  go_ret
  exact ⟨rfl, rfl⟩
end Go.Proofs.YtillhpgdlmeajaaGreatDoor

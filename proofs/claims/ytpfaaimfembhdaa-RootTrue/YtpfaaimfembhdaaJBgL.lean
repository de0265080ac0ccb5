/-
  OWN TEXT: what math/bits.Len32 returns: how many bits a word has.
-/
import Derived.Test.YtpfaaimfembhdaaProg
import Derived.Lib.Strings
import Derived.Lib.Slices
import Derived.Lib.Small
import Derived.Lib.Walk
import Derived.Lib.BitFns
namespace Go.Proofs.Ytpfaaimfembhdaa
theorem rl {a b : Int} (h : a = b) : Ending.returned (.int .i64 a) = .returned (.int .i64 b) := by rw [h]
theorem tab_at (q : Int) (n : Nat) (h : q = n) (hn : n < 256) : Lib.len8 q = (Lib.bitLen n : Int) ∧ Lib.bitLen n ≤ 8 := by
  subst h
  refine ⟨?_, ?_⟩
  · rw [Lib.len8_of _ (by omega) (by omega), Int.toNat_natCast]
  · exact Lib.bitLen_le8 ⟨n, hn⟩
set_option maxHeartbeats 4000000 in
set_option maxRecDepth 100000 in
theorem len32_lib (x : Int) (w : World) (h0 : 0 ≤ x) (h1 : x ≤ 4294967295) :
    Calls Try.prog 92 #[.int .u32 x] w fun e w' => e = .returned (.int .i64 (Lib.bitLen x.toNat)) ∧ w' = w := by
  by_cases c1 : x < 256
  · obtain ⟨e, l⟩ := tab_at (x % 256) x.toNat (by omega) (by omega)
    go_enter Try.func92, Try.ntmps92
    clear e
    go_wp2
    go_ret
    obtain ⟨e, l⟩ := tab_at (x % 256) x.toNat (by omega) (by omega)
    exact ⟨rl (by rw [e]; omega), rfl⟩
  · by_cases c2 : x < 65536
    · have s := Lib.bitLen_shift8 x.toNat (by omega) (by omega)
      go_enter Try.func92, Try.ntmps92
      clear s
      go_wp2
      go_ret
      have s := Lib.bitLen_shift8 x.toNat (by omega) (by omega)
      obtain ⟨e, l⟩ := tab_at (x / 256 % 256) (x.toNat / 256) (by omega) (by omega)
      exact ⟨rl (by rw [e]; omega), rfl⟩
    · by_cases c3 : x / 65536 < 256
      · go_enter Try.func92, Try.ntmps92
        go_wp2
        go_ret
        have s := Lib.bitLen_shift16 x.toNat (by omega) (by omega)
        obtain ⟨e, l⟩ := tab_at (x / 65536 % 256) (x.toNat / 65536) (by omega) (by omega)
        exact ⟨rl (by rw [e]; omega), rfl⟩
      · go_enter Try.func92, Try.ntmps92
        go_wp2
        go_ret
        have s := Lib.bitLen_shift24 x.toNat (by omega) (by omega)
        obtain ⟨e, l⟩ := tab_at (x / 65536 / 256 % 256) (x.toNat / 16777216) (by omega) (by omega)
        exact ⟨rl (by rw [e]; omega), rfl⟩
end Go.Proofs.Ytpfaaimfembhdaa

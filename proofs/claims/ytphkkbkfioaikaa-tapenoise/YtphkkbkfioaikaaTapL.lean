/-
  Plain mathematics of layer 11: keys of a tape, bytes of a number. No condition; nothing of the program.
-/
import Derived.Test.YtphkkbkfioaikaaCelL
import Derived.Test.YtphkkbkfioaikaaPlain
namespace Go.Proofs.Ytphkkbkfioaikaa
open Go.RowKit

/-- The next number. -/
def lcg (x : Nat) : Nat := (x * 6364136223846793005 + 1442695040888963407) % 18446744073709551616
/-- The number behind i steps. -/
def lcgI (n : Nat) : Nat → Nat
  | 0 => n
  | i + 1 => lcg (lcgI n i)
def lcgB (n i : Nat) : UInt8 := UInt8.ofNat (lcgI n (i + 1) / 72057594037927936)
/-- So many bytes that come of it. -/
def lcgL (n k : Nat) : List UInt8 := (List.range k).map (lcgB n)
def noiseL (n size : Nat) : List UInt8 := (putL n 8 ++ lcgL n (size - 8)).take size
theorem lcg_lt (x : Nat) : lcg x < 18446744073709551616 := Nat.mod_lt _ (by omega)
theorem lcgI_lt {n : Nat} (h : n < 18446744073709551616) : ∀ i, lcgI n i < 18446744073709551616
  | 0 => h
  | _ + 1 => lcg_lt _
theorem lcgL_length (n k : Nat) : (lcgL n k).length = k := by simp [lcgL]
theorem lcgL_succ (n k : Nat) : lcgL n (k + 1) = lcgL n k ++ [lcgB n k] := by simp [lcgL, List.range_succ]
theorem lcgL_take (n : Nat) {j k : Nat} (h : j ≤ k) : (lcgL n k).take j = lcgL n j := by
  unfold lcgL
  rw [← List.map_take, List.take_range, Nat.min_eq_left h]
theorem noiseL_length (n size : Nat) : (noiseL n size).length = size := by
  unfold noiseL
  rw [List.length_take, List.length_append, putL_length, lcgL_length]
  omega
/-- Fewer are the first ones of more. -/
theorem noise_take (n s m : Nat) : (noiseL n (s + m)).take s = noiseL n s := by
  unfold noiseL
  rw [List.take_take, Nat.min_eq_left (by omega)]
  by_cases h : s ≤ 8
  · rw [List.take_append_of_le_length (by rw [putL_length]; exact h), List.take_append_of_le_length (by rw [putL_length]; exact h)]
  · rw [List.take_append, List.take_append, putL_length, lcgL_take n (by omega), lcgL_take n (Nat.le_refl _)]
/-- Unlike numbers, unlike bytes. -/
theorem noise_inj {n m k : Nat} (hn : n < 18446744073709551616) (hm : m < 18446744073709551616) (hk : 8 ≤ k) : noiseL n k = noiseL m k ↔ n = m := by
  constructor
  · intro h
    have e : ∀ x, (noiseL x k).take 8 = putL x 8 := fun x => by
      unfold noiseL
      rw [List.take_take, Nat.min_eq_left hk, List.take_append_of_le_length (by rw [putL_length]; exact Nat.le_refl _), List.take_of_length_le (by rw [putL_length]; exact Nat.le_refl _)]
    have h8 : putL n 8 = putL m 8 := by rw [← e n, ← e m, h]
    rw [← getN_put8 n hn, ← getN_put8 m hm, h8]
  · rintro rfl
    rfl
def zk32 : List UInt8 := List.replicate 32 0
/-- A key of any bytes. -/
def key32 (b : List UInt8) : List UInt8 := (b ++ zk32).take 32
theorem key32_length (b : List UInt8) : (key32 b).length = 32 := by
  unfold key32 zk32
  rw [List.length_take, List.length_append, List.length_replicate]
  omega
/-- A tape: all keys, how many were drawn. -/
structure TapS where
  l : List (List UInt8)
  next : Nat
def TapS.new (l : List (List UInt8)) : TapS := ⟨l.map key32, 0⟩
def TapS.draw (T : TapS) : TapS × List UInt8 × Int := if T.next < T.l.length then ({ T with next := T.next + 1 }, T.l.getD T.next [], 0) else (T, [], 8)
def TapS.apart (T : TapS) : Bool := decide T.l.Nodup

end Go.Proofs.Ytphkkbkfioaikaa

/-
  Element: the names of each bit; what a name is.
-/
import Derived.Test.YtojinnnpfjhifaaWrd
namespace Go.Proofs.Ytojinnnpfjhifaa
open Go.Lib

def nm0 : List (List UInt8) := [[97, 100, 100, 114, 101, 115, 115], [97, 114, 116, 105, 99, 108, 101], [97, 115, 105, 100, 101], [98, 108, 111, 99, 107, 113, 117, 111, 116, 101], [98, 111, 100, 121], [99, 101, 110, 116, 101, 114], [100, 100], [100, 101, 116, 97, 105, 108, 115], [100, 105, 97, 108, 111, 103], [100, 105, 118], [100, 108], [100, 116], [102, 105, 101, 108, 100, 115, 101, 116], [102, 105, 103, 99, 97, 112, 116, 105, 111, 110], [102, 105, 103, 117, 114, 101], [102, 111, 111, 116, 101, 114], [102, 111, 114, 109], [104, 49], [104, 50], [104, 51], [104, 52], [104, 53], [104, 54], [104, 101, 97, 100, 101, 114], [104, 114], [104, 116, 109, 108], [108, 105], [109, 97, 105, 110], [110, 97, 118], [111, 108], [112], [112, 114, 101], [115, 101, 99, 116, 105, 111, 110], [115, 117, 109, 109, 97, 114, 121], [116, 97, 98, 108, 101], [116, 98, 111, 100, 121], [116, 100], [116, 102, 111, 111, 116], [116, 104], [116, 104, 101, 97, 100], [116, 114], [117, 108]]
def nm1 : List (List UInt8) := [[97, 114, 101, 97], [98, 97, 115, 101], [98, 114], [99, 111, 108], [101, 109, 98, 101, 100], [104, 114], [105, 109, 103], [105, 110, 112, 117, 116], [108, 105, 110, 107], [109, 101, 116, 97], [115, 111, 117, 114, 99, 101], [116, 114, 97, 99, 107], [119, 98, 114]]
def nm2 : List (List UInt8) := [[104, 101, 97, 100], [110, 111, 115, 99, 114, 105, 112, 116], [115, 99, 114, 105, 112, 116], [115, 116, 121, 108, 101], [116, 101, 109, 112, 108, 97, 116, 101], [116, 105, 116, 108, 101]]
def nm3 : List (List UInt8) := [[112, 114, 101]]
def nm4 : List (List UInt8) := [[110, 111, 98, 114]]
def nm5 : List (List UInt8) := [[98, 114]]
def nm6 : List (List UInt8) := [[119, 98, 114]]
/-- The names of bit 2^j. -/
def nmL : Nat → List (List UInt8)
  | 0 => nm0
  | 1 => nm1
  | 2 => nm2
  | 3 => nm3
  | 4 => nm4
  | 5 => nm5
  | 6 => nm6
  | _ => []
theorem nm_plain : ∀ j, ∀ w ∈ nmL j, 32 ∉ w
  | 0 => by decide +kernel
  | 1 => by decide +kernel
  | 2 => by decide +kernel
  | 3 => by decide +kernel
  | 4 => by decide +kernel
  | 5 => by decide +kernel
  | 6 => by decide +kernel
  | _ + 7 => by intro w h; cases h
/-- What a name is, by the first j bits. -/
def ofN (n : List UInt8) : Nat → Nat
  | 0 => 0
  | j + 1 => ofN n j + (if n ∈ nmL j then 2 ^ j else 0)
theorem ofN_lt (n : List UInt8) : ∀ j, ofN n j < 2 ^ j
  | 0 => by show 0 < 2 ^ 0; decide
  | j + 1 => by
    have := ofN_lt n j
    unfold ofN
    rw [Nat.pow_succ]
    split <;> omega
theorem ofN_blank {n : List UInt8} (h : 32 ∈ n) : ∀ j, ofN n j = 0
  | 0 => rfl
  | j + 1 => by
    unfold ofN
    rw [ofN_blank h j, if_neg (fun e => nm_plain j n e h)]
/-- A blank on both sides. -/
def wordB (n : List UInt8) : List UInt8 := 32 :: (n ++ [32])
theorem contains_nm {n : List UInt8} (h : 32 ∉ n) (j : Nat) : contains (joinB (nmL j)) (wordB n) = decide (n ∈ nmL j) := contains_join h (nm_plain j)
theorem nm_nodup : ∀ j, (nmL j).Nodup
  | 0 => by decide +kernel
  | 1 => by decide +kernel
  | 2 => by decide +kernel
  | 3 => by decide +kernel
  | 4 => by decide +kernel
  | 5 => by decide +kernel
  | 6 => by decide +kernel
  | _ + 7 => List.nodup_nil
end Go.Proofs.Ytojinnnpfjhifaa

/- The register: numbers below 2^32, one step of it, its way back. The register, bit by bit; four octets that force a sum; bits that are turned. -/
namespace Go.Proofs.YtdbgncdnffbhkaaGreatDoor.Pl

theorem xx (x y : Nat) : x ^^^ (x ^^^ y) = y := by rw [← Nat.xor_assoc, Nat.xor_self, Nat.zero_xor]
def st (x : Nat) : Nat := x / 2 ^^^ 3988292384 * (x % 2)
def bk (x : Nat) : Nat := (x ^^^ 3988292384 * (x / 2147483648)) * 2 % 4294967296 + x / 2147483648

def it : Nat → Nat → Nat
  | 0, x => x
  | n + 1, x => it n (st x)
/-- The register behind octets, and back. -/
def run (c : Nat) (l : List Int) : Nat := l.foldl (fun c o => it 8 (c ^^^ o.toNat)) c
end Go.Proofs.YtdbgncdnffbhkaaGreatDoor.Pl

namespace Go.Proofs.YtdbgncdnffbhkaaGreatDoor.Pl

/-- The reference's step back. -/
def rw1 (c : Nat) : Nat := if c / 2147483648 = 1 then c ^^^ 3988292384 else c
def rb (c b : Nat) : Nat := rw1 c * 2 % 4294967296 + (if c / 2147483648 = b then 0 else 1)
end Go.Proofs.YtdbgncdnffbhkaaGreatDoor.Pl


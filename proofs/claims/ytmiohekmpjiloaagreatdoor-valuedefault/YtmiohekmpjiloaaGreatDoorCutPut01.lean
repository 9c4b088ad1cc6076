/- The register: numbers below 2^32, one step of it, its way back. The register, bit by bit; four octets that force a sum; bits that are turned. -/
namespace Go.Proofs.YtmiohekmpjiloaaGreatDoor.Pl

def st (x : Nat) : Nat := x / 2 ^^^ 3988292384 * (x % 2)
def it : Nat → Nat → Nat
  | 0, x => x
  | n + 1, x => it n (st x)
/-- The register behind octets, and back. -/
def run (c : Nat) (l : List Int) : Nat := l.foldl (fun c o => it 8 (c ^^^ o.toNat)) c
end Go.Proofs.YtmiohekmpjiloaaGreatDoor.Pl

namespace Go.Proofs.YtmiohekmpjiloaaGreatDoor.Pl

end Go.Proofs.YtmiohekmpjiloaaGreatDoor.Pl


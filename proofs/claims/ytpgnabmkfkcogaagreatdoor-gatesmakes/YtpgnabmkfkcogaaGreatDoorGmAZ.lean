/- Package gates: Wire. The law GatesValues: its walk. -/
import Derived.Test.YtpgnabmkfkcogaaGreatDoorGmAN
import Derived.Test.YtpgnabmkfkcogaaGreatDoorGmAY
import Derived.Test.YtpgnabmkfkcogaaGreatDoorGmAX
import Derived.Test.YtpgnabmkfkcogaaGreatDoorGmAS
namespace Go.Proofs.YtpgnabmkfkcogaaGreatDoor
open Go.RowKit

end Go.Proofs.YtpgnabmkfkcogaaGreatDoor

namespace Go.Proofs.YtpgnabmkfkcogaaGreatDoor
open Go.RowKit

theorem wdz_wide {wide : Int} {m : Nat} (h0 : 0 ≤ wide) (h6 : wide ≤ 6) : wdz m = wide ↔ m = 2 ^ wide.toNat := by
  constructor
  · intro h
    obtain ⟨v, h1, h2, h5⟩ := wdz_of (n := m) (by omega)
    rw [h2]
    congr 1
    omega
  · intro h
    rw [wdz_yes (v := wide.toNat) (by omega) h]
    omega

end Go.Proofs.YtpgnabmkfkcogaaGreatDoor

/- SumsExtends: the walk. SumsTotals: the walk. -/
import Derived.Test.YtpgnabmkfkcogaaGreatDoorGqAJ
namespace Go.Proofs.YtpgnabmkfkcogaaGreatDoor
open Go.RowKit

end Go.Proofs.YtpgnabmkfkcogaaGreatDoor

namespace Go.Proofs.YtpgnabmkfkcogaaGreatDoor
open Go.RowKit

theorem InR.own {W w' : World} {a : Option Addr} {c bs : Nat} {rows : List (List Int)} {v : Value} (h : InR W a c rows) (ho : OwnR bs w' v rows) : ∃ ao co, v = .slice ao rows.length co ∧ InR w' ao co rows := by
  obtain ⟨ao, co, e, hl⟩ := ho.lst
  exact ⟨ao, co, e, h.len, h.lens, h.fit, hl⟩
end Go.Proofs.YtpgnabmkfkcogaaGreatDoor

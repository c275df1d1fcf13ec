/-
  DERIVED. GIVEN WITH THE SEED: THE CARDS: each row of YtgefmnnkpffpcaaGreatDoorRows.lean that lists a variable, with what it lists TIED to the program's text (the seventh form; the later family's looks); each row that meets fmt, with fmt's text TOLD by the authors' own Lean function (tested against real Go, not proved from fmt's source: count such statements apart). THE CARD IS WHAT COUNTS. Prove the row's statement (the work); the ties are given (YtgefmnnkpffpcaaGreatDoorTie.lean); close each card by the builder's one call (the guide's Derived/Test/ToyasCard.lean, 'card_holds'). Laid BY PROGRAM, IN A SANDBOX (cutbox-door.mjs). By AI agents, Wed Nov 11 2026. No macro, syntax, notation, axiom, sorry.
-/
import Derived.Test.YtgefmnnkpffpcaaGreatDoorRows
import GoSem.ClaimSeven
namespace Go.Proofs.YtgefmnnkpffpcaaGreatDoor
namespace Rows

/-- THE TIED CARD OF 'metronomelaw03.TlsfSteps'. -/
def tlsfStepsCard : Claim7 := { stood := { row := tlsfStepsRow, standIns := [], harness := (true, "9cc4af169c147300544e5a700879c2a0bc778ccfaa578a3e76614e3501122bc3"), looks := true }, kinds := [], alts := [], laidByText := true, laidKinds := [.data], laidTests := true, laidLooks := .later }
def TlsfStepsCardSaid : Prop := Claim7.holds Tryz.pinned (.plain (OpenSpec.ofChange tlsfStepsSpec)) tlsfStepsCard

/-- THE TIED CARD OF 'metronomelaw03.TlsfKeeps'. -/
def tlsfKeepsCard : Claim7 := { stood := { row := tlsfKeepsRow, standIns := [], harness := (true, "9cc4af169c147300544e5a700879c2a0bc778ccfaa578a3e76614e3501122bc3"), looks := true }, kinds := [], alts := [], laidByText := true, laidKinds := [.data], laidTests := true, laidLooks := .later }
def TlsfKeepsCardSaid : Prop := Claim7.holds Tryz.pinned (.plain (OpenSpec.ofChange tlsfKeepsSpec)) tlsfKeepsCard

/-- THE TIED CARD OF 'metronomelaw03.TlsfCost'. -/
def tlsfCostCard : Claim7 := { stood := { row := tlsfCostRow, standIns := [], harness := (true, "9cc4af169c147300544e5a700879c2a0bc778ccfaa578a3e76614e3501122bc3"), looks := true }, kinds := [], alts := [], laidByText := true, laidKinds := [.data], laidTests := true, laidLooks := .later }
def TlsfCostCardSaid : Prop := Claim7.holds Tryz.pinned (.plain (OpenSpec.ofChange tlsfCostSpec)) tlsfCostCard

/-- THE TIED CARD OF 'metronomelaw03.TlsfNil'. -/
def tlsfNilCard : Claim7 := { stood := { row := tlsfNilRow, standIns := [], harness := (true, "9cc4af169c147300544e5a700879c2a0bc778ccfaa578a3e76614e3501122bc3"), looks := true }, kinds := [], alts := [], laidByText := true, laidKinds := [.data], laidTests := true, laidLooks := .later }
def TlsfNilCardSaid : Prop := Claim7.holds Tryz.pinned (.plain (OpenSpec.ofChange tlsfNilSpec)) tlsfNilCard

/-- THE SECOND FORM's CARD OF 'metronomelaw03.TlsfSteps'. -/
def tlsfStepsUptoCard : Claim7 := { stood := { row := tlsfStepsUptoRow, standIns := [], harness := (true, "9cc4af169c147300544e5a700879c2a0bc778ccfaa578a3e76614e3501122bc3"), looks := true }, kinds := [], alts := [], laidByText := true, laidKinds := [.data], laidTests := true, laidLooks := .later }
def TlsfStepsUptoCardSaid : Prop := Claim7.holds Tryz.pinned (.plain (OpenSpec.upto tlsfStepsSpec)) tlsfStepsUptoCard

/-- THE SECOND FORM's CARD OF 'metronomelaw03.TlsfKeeps'. -/
def tlsfKeepsUptoCard : Claim7 := { stood := { row := tlsfKeepsUptoRow, standIns := [], harness := (true, "9cc4af169c147300544e5a700879c2a0bc778ccfaa578a3e76614e3501122bc3"), looks := true }, kinds := [], alts := [], laidByText := true, laidKinds := [.data], laidTests := true, laidLooks := .later }
def TlsfKeepsUptoCardSaid : Prop := Claim7.holds Tryz.pinned (.plain (OpenSpec.upto tlsfKeepsSpec)) tlsfKeepsUptoCard

/-- THE SECOND FORM's CARD OF 'metronomelaw03.TlsfCost'. -/
def tlsfCostUptoCard : Claim7 := { stood := { row := tlsfCostUptoRow, standIns := [], harness := (true, "9cc4af169c147300544e5a700879c2a0bc778ccfaa578a3e76614e3501122bc3"), looks := true }, kinds := [], alts := [], laidByText := true, laidKinds := [.data], laidTests := true, laidLooks := .later }
def TlsfCostUptoCardSaid : Prop := Claim7.holds Tryz.pinned (.plain (OpenSpec.upto tlsfCostSpec)) tlsfCostUptoCard

/-- THE SECOND FORM's CARD OF 'metronomelaw03.TlsfNil'. -/
def tlsfNilUptoCard : Claim7 := { stood := { row := tlsfNilUptoRow, standIns := [], harness := (true, "9cc4af169c147300544e5a700879c2a0bc778ccfaa578a3e76614e3501122bc3"), looks := true }, kinds := [], alts := [], laidByText := true, laidKinds := [.data], laidTests := true, laidLooks := .later }
def TlsfNilUptoCardSaid : Prop := Claim7.holds Tryz.pinned (.plain (OpenSpec.upto tlsfNilSpec)) tlsfNilUptoCard
end Rows
end Go.Proofs.YtgefmnnkpffpcaaGreatDoor

/-
  DERIVED. GIVEN WITH THE SEED: THE CARDS: each row of YtibkmcfinkadhaaGreatDoorRows.lean that lists a variable, with what it lists TIED to the program's text (the seventh form; the later family's looks); each row that meets fmt, with fmt's text TOLD by the authors' own Lean function (tested against real Go, not proved from fmt's source: count such statements apart). THE CARD IS WHAT COUNTS. Prove the row's statement (the work); the ties are given (YtibkmcfinkadhaaGreatDoorTie.lean); close each card by the builder's one call (the guide's Derived/Test/ToyasCard.lean, 'card_holds'). Laid BY PROGRAM, IN A SANDBOX (cutbox-door.mjs). By AI agents, Wed Nov 11 2026. No macro, syntax, notation, axiom, sorry.
-/
import Derived.Test.YtibkmcfinkadhaaGreatDoorRows
import GoSem.ClaimSeven
namespace Go.Proofs.YtibkmcfinkadhaaGreatDoor
namespace Rows

/-- THE TIED CARD OF 'laws.FnSound'. -/
def fnSoundCard : Claim7 := { stood := { row := fnSoundRow, standIns := [], harness := (true, "7e9a2c3ffc103d310a4ccae916547d275366c1c19c296f0574616555d6c625b0"), looks := true }, kinds := [], alts := [], laidByText := true, laidKinds := [.sentinel, .sentinel, .sentinel, .sentinel], laidTests := true, laidLooks := .later }
def FnSoundCardSaid : Prop := Claim7.holds Tryz.pinned (.plain (OpenSpec.ofChange fnSoundSpec)) fnSoundCard

/-- THE TIED CARD OF 'laws.FnExactProgFault'. -/
def fnExactProgFaultCard : Claim7 := { stood := { row := fnExactProgFaultRow, standIns := [], harness := (true, "7e9a2c3ffc103d310a4ccae916547d275366c1c19c296f0574616555d6c625b0"), looks := true }, kinds := [], alts := [], laidByText := true, laidKinds := [.sentinel, .sentinel, .sentinel, .sentinel], laidTests := true, laidLooks := .later }
def FnExactProgFaultCardSaid : Prop := Claim7.holds Tryz.pinned (.plain (OpenSpec.ofChange fnExactProgFaultSpec)) fnExactProgFaultCard

/-- THE SECOND FORM's CARD OF 'laws.FnSound'. -/
def fnSoundUptoCard : Claim7 := { stood := { row := fnSoundUptoRow, standIns := [], harness := (true, "7e9a2c3ffc103d310a4ccae916547d275366c1c19c296f0574616555d6c625b0"), looks := true }, kinds := [], alts := [], laidByText := true, laidKinds := [.sentinel, .sentinel, .sentinel, .sentinel], laidTests := true, laidLooks := .later }
def FnSoundUptoCardSaid : Prop := Claim7.holds Tryz.pinned (.plain (OpenSpec.upto fnSoundSpec)) fnSoundUptoCard

/-- THE SECOND FORM's CARD OF 'laws.FnExactProgFault'. -/
def fnExactProgFaultUptoCard : Claim7 := { stood := { row := fnExactProgFaultUptoRow, standIns := [], harness := (true, "7e9a2c3ffc103d310a4ccae916547d275366c1c19c296f0574616555d6c625b0"), looks := true }, kinds := [], alts := [], laidByText := true, laidKinds := [.sentinel, .sentinel, .sentinel, .sentinel], laidTests := true, laidLooks := .later }
def FnExactProgFaultUptoCardSaid : Prop := Claim7.holds Tryz.pinned (.plain (OpenSpec.upto fnExactProgFaultSpec)) fnExactProgFaultUptoCard
end Rows
end Go.Proofs.YtibkmcfinkadhaaGreatDoor

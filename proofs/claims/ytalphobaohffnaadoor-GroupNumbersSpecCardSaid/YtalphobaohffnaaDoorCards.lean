/-
  DERIVED. GIVEN WITH THE SEED: THE CARDS: each row of YtalphobaohffnaaDoorRows.lean that lists a variable, with what it lists TIED to the program's text (the seventh form; the later family's looks); each row that meets fmt, with fmt's text TOLD by the authors' own Lean function (tested against real Go, not proved from fmt's source: count such statements apart). THE CARD IS WHAT COUNTS. Prove the row's statement (the work); the ties are given (YtalphobaohffnaaDoorTie.lean); close each card by the builder's one call (the guide's Derived/Test/ToyasCard.lean, 'card_holds'). Laid BY PROGRAM, IN A SANDBOX (cutbox-door.mjs). By AI agents, Wed Nov 11 2026. No macro, syntax, notation, axiom, sorry.
-/
import Derived.Test.YtalphobaohffnaaDoorRows
import GoSem.ClaimSeven
namespace Go.Proofs.YtalphobaohffnaaDoor
namespace Rows

/-- THE TIED CARD OF 'kinespherelaw10.GroupNumbersSpec'. -/
def groupNumbersSpecCard : Claim7 := { stood := { row := groupNumbersSpecRow, standIns := [], harness := (true, "9735143692dec3ac437028ae00bf65ed582803525ba168978ebd1014bfb954fd"), looks := false }, kinds := [], alts := [], laidByText := true, laidKinds := [.data], laidTests := true, laidLooks := .later }
def GroupNumbersSpecCardSaid : Prop := Claim7.holds Tryd.pinned (.plain (OpenSpec.ofChange groupNumbersSpecSpec)) groupNumbersSpecCard

/-- THE TIED CARD OF 'kinespherelaw10.GroupHash'. -/
def groupHashCard : Claim7 := { stood := { row := groupHashRow, standIns := [], harness := (true, "9735143692dec3ac437028ae00bf65ed582803525ba168978ebd1014bfb954fd"), looks := false }, kinds := [], alts := [], laidByText := true, laidKinds := [.data], laidTests := true, laidLooks := .later }
def GroupHashCardSaid : Prop := Claim7.holds Tryd.pinned (.plain (OpenSpec.ofChange groupHashSpec)) groupHashCard

/-- THE SECOND FORM's CARD OF 'kinespherelaw10.GroupNumbersSpec'. -/
def groupNumbersSpecUptoCard : Claim7 := { stood := { row := groupNumbersSpecUptoRow, standIns := [], harness := (true, "9735143692dec3ac437028ae00bf65ed582803525ba168978ebd1014bfb954fd"), looks := false }, kinds := [], alts := [], laidByText := true, laidKinds := [.data], laidTests := true, laidLooks := .later }
def GroupNumbersSpecUptoCardSaid : Prop := Claim7.holds Tryd.pinned (.plain (OpenSpec.upto groupNumbersSpecSpec)) groupNumbersSpecUptoCard

/-- THE SECOND FORM's CARD OF 'kinespherelaw10.GroupHash'. -/
def groupHashUptoCard : Claim7 := { stood := { row := groupHashUptoRow, standIns := [], harness := (true, "9735143692dec3ac437028ae00bf65ed582803525ba168978ebd1014bfb954fd"), looks := false }, kinds := [], alts := [], laidByText := true, laidKinds := [.data], laidTests := true, laidLooks := .later }
def GroupHashUptoCardSaid : Prop := Claim7.holds Tryd.pinned (.plain (OpenSpec.upto groupHashSpec)) groupHashUptoCard
end Rows
end Go.Proofs.YtalphobaohffnaaDoor

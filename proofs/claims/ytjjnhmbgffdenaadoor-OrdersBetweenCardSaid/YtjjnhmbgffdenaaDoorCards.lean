/-
  DERIVED. GIVEN WITH THE SEED: THE CARDS: each row of YtjjnhmbgffdenaaDoorRows.lean that lists a variable, with what it lists TIED to the program's text (the seventh form; the later family's looks); each row that meets fmt, with fmt's text TOLD by the authors' own Lean function (tested against real Go, not proved from fmt's source: count such statements apart). THE CARD IS WHAT COUNTS. Prove the row's statement (the work); the ties are given (YtjjnhmbgffdenaaDoorTie.lean); close each card by the builder's one call (the guide's Derived/Test/ToyasCard.lean, 'card_holds'). Laid BY PROGRAM, IN A SANDBOX (cutbox-door.mjs). By AI agents, Wed Nov 11 2026. No macro, syntax, notation, axiom, sorry.
-/
import Derived.Test.YtjjnhmbgffdenaaDoorRows
import GoSem.ClaimSeven
namespace Go.Proofs.YtjjnhmbgffdenaaDoor
namespace Rows

/-- THE TIED CARD OF 'ganseylaw04.OrdersList'. -/
def ordersListCard : Claim7 := { stood := { row := ordersListRow, standIns := [], harness := (true, "50db61d5a6d790a111193cfaf1ceeeca85e0171e0123fa0e5de7c4372912d992"), looks := false }, kinds := [], alts := [], laidByText := true, laidKinds := [.data], laidTests := true, laidLooks := .later }
def OrdersListCardSaid : Prop := Claim7.holds Tryd.pinned (.plain (OpenSpec.ofChange ordersListSpec)) ordersListCard

/-- THE TIED CARD OF 'ganseylaw04.OrdersBetween'. -/
def ordersBetweenCard : Claim7 := { stood := { row := ordersBetweenRow, standIns := [], harness := (true, "50db61d5a6d790a111193cfaf1ceeeca85e0171e0123fa0e5de7c4372912d992"), looks := false }, kinds := [], alts := [], laidByText := true, laidKinds := [.data], laidTests := true, laidLooks := .later }
def OrdersBetweenCardSaid : Prop := Claim7.holds Tryd.pinned (.plain (OpenSpec.ofChange ordersBetweenSpec)) ordersBetweenCard

/-- THE TIED CARD OF 'ganseylaw04.OrdersStep'. -/
def ordersStepCard : Claim7 := { stood := { row := ordersStepRow, standIns := [], harness := (true, "50db61d5a6d790a111193cfaf1ceeeca85e0171e0123fa0e5de7c4372912d992"), looks := false }, kinds := [], alts := [], laidByText := true, laidKinds := [.data], laidTests := true, laidLooks := .later }
def OrdersStepCardSaid : Prop := Claim7.holds Tryd.pinned (.plain (OpenSpec.ofChange ordersStepSpec)) ordersStepCard

/-- THE TIED CARD OF 'ganseylaw04.OrdersBack'. -/
def ordersBackCard : Claim7 := { stood := { row := ordersBackRow, standIns := [], harness := (true, "50db61d5a6d790a111193cfaf1ceeeca85e0171e0123fa0e5de7c4372912d992"), looks := false }, kinds := [], alts := [], laidByText := true, laidKinds := [.data], laidTests := true, laidLooks := .later }
def OrdersBackCardSaid : Prop := Claim7.holds Tryd.pinned (.plain (OpenSpec.ofChange ordersBackSpec)) ordersBackCard

/-- THE TIED CARD OF 'ganseylaw04.OrdersMeets'. -/
def ordersMeetsCard : Claim7 := { stood := { row := ordersMeetsRow, standIns := [], harness := (true, "50db61d5a6d790a111193cfaf1ceeeca85e0171e0123fa0e5de7c4372912d992"), looks := false }, kinds := [], alts := [], laidByText := true, laidKinds := [.data], laidTests := true, laidLooks := .later }
def OrdersMeetsCardSaid : Prop := Claim7.holds Tryd.pinned (.plain (OpenSpec.ofChange ordersMeetsSpec)) ordersMeetsCard

/-- THE TIED CARD OF 'ganseylaw04.OrdersErrors'. -/
def ordersErrorsCard : Claim7 := { stood := { row := ordersErrorsRow, standIns := [], harness := (true, "50db61d5a6d790a111193cfaf1ceeeca85e0171e0123fa0e5de7c4372912d992"), looks := false }, kinds := [], alts := [], laidByText := true, laidKinds := [.data], laidTests := true, laidLooks := .later }
def OrdersErrorsCardSaid : Prop := Claim7.holds Tryd.pinned (.plain (OpenSpec.ofChange ordersErrorsSpec)) ordersErrorsCard

/-- THE SECOND FORM's CARD OF 'ganseylaw04.OrdersList'. -/
def ordersListUptoCard : Claim7 := { stood := { row := ordersListUptoRow, standIns := [], harness := (true, "50db61d5a6d790a111193cfaf1ceeeca85e0171e0123fa0e5de7c4372912d992"), looks := false }, kinds := [], alts := [], laidByText := true, laidKinds := [.data], laidTests := true, laidLooks := .later }
def OrdersListUptoCardSaid : Prop := Claim7.holds Tryd.pinned (.plain (OpenSpec.upto ordersListSpec)) ordersListUptoCard

/-- THE SECOND FORM's CARD OF 'ganseylaw04.OrdersBetween'. -/
def ordersBetweenUptoCard : Claim7 := { stood := { row := ordersBetweenUptoRow, standIns := [], harness := (true, "50db61d5a6d790a111193cfaf1ceeeca85e0171e0123fa0e5de7c4372912d992"), looks := false }, kinds := [], alts := [], laidByText := true, laidKinds := [.data], laidTests := true, laidLooks := .later }
def OrdersBetweenUptoCardSaid : Prop := Claim7.holds Tryd.pinned (.plain (OpenSpec.upto ordersBetweenSpec)) ordersBetweenUptoCard

/-- THE SECOND FORM's CARD OF 'ganseylaw04.OrdersStep'. -/
def ordersStepUptoCard : Claim7 := { stood := { row := ordersStepUptoRow, standIns := [], harness := (true, "50db61d5a6d790a111193cfaf1ceeeca85e0171e0123fa0e5de7c4372912d992"), looks := false }, kinds := [], alts := [], laidByText := true, laidKinds := [.data], laidTests := true, laidLooks := .later }
def OrdersStepUptoCardSaid : Prop := Claim7.holds Tryd.pinned (.plain (OpenSpec.upto ordersStepSpec)) ordersStepUptoCard

/-- THE SECOND FORM's CARD OF 'ganseylaw04.OrdersBack'. -/
def ordersBackUptoCard : Claim7 := { stood := { row := ordersBackUptoRow, standIns := [], harness := (true, "50db61d5a6d790a111193cfaf1ceeeca85e0171e0123fa0e5de7c4372912d992"), looks := false }, kinds := [], alts := [], laidByText := true, laidKinds := [.data], laidTests := true, laidLooks := .later }
def OrdersBackUptoCardSaid : Prop := Claim7.holds Tryd.pinned (.plain (OpenSpec.upto ordersBackSpec)) ordersBackUptoCard

/-- THE SECOND FORM's CARD OF 'ganseylaw04.OrdersMeets'. -/
def ordersMeetsUptoCard : Claim7 := { stood := { row := ordersMeetsUptoRow, standIns := [], harness := (true, "50db61d5a6d790a111193cfaf1ceeeca85e0171e0123fa0e5de7c4372912d992"), looks := false }, kinds := [], alts := [], laidByText := true, laidKinds := [.data], laidTests := true, laidLooks := .later }
def OrdersMeetsUptoCardSaid : Prop := Claim7.holds Tryd.pinned (.plain (OpenSpec.upto ordersMeetsSpec)) ordersMeetsUptoCard

/-- THE SECOND FORM's CARD OF 'ganseylaw04.OrdersErrors'. -/
def ordersErrorsUptoCard : Claim7 := { stood := { row := ordersErrorsUptoRow, standIns := [], harness := (true, "50db61d5a6d790a111193cfaf1ceeeca85e0171e0123fa0e5de7c4372912d992"), looks := false }, kinds := [], alts := [], laidByText := true, laidKinds := [.data], laidTests := true, laidLooks := .later }
def OrdersErrorsUptoCardSaid : Prop := Claim7.holds Tryd.pinned (.plain (OpenSpec.upto ordersErrorsSpec)) ordersErrorsUptoCard
end Rows
end Go.Proofs.YtjjnhmbgffdenaaDoor

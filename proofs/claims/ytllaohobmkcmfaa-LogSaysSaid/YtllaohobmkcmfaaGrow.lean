/- Regions that draw their order, whose operations read and whose callees only make new memory: one walk in the order of the text. -/
import Derived.Test.YtllaohobmkcmfaaBase
import Derived.Deep.QuietTactic
import Derived.BigQuiet
namespace Go.Proofs.Ytllaohobmkcmfaa
open Go.RowKit

/-- A world that has all that was, and perhaps more. -/
structure Gr (w : World) where
  val : World
  ok : Below w.heap.size w val

instance (w : World) : Nonempty (Gr w) := ⟨⟨w, Below.refl _ _⟩⟩

theorem wp_region_grow {P : Program} {id : Nat} {Q : Exit → Act → World → Prop} {a : Act} {w : World} {l : List Oper} (hm : P.follows .mixedOrders = true) (hB : Region.lexB .any l.toArray = true)
    (h : wpQuiet P l.toArray (fun w' => ∃ o : Gr w, w' = o.val) (fun a' => ∀ w', (∃ o : Gr w, w' = o.val) → Q .normal a' w') l a) : (Code.region id l.toArray true).wp P Q a w :=
  wp_region_quiet (C := fun w' => ∃ o : Gr w, w' = o.val) hm hB ⟨⟨_, (Below.refl _ _).drew⟩, rfl⟩ (by simpa using h)

/-- A callee's contract, met in such a world. -/
theorem Calls.grow {P : Program} {f : FuncId} {args : Array Value} {w : World} {v : Value} (o : Gr w) (h : Calls P f args o.val fun e w' => e = .returned v ∧ Below o.val.heap.size o.val w') : Calls P f args o.val fun e w' => e = .returned v ∧ ∃ o' : Gr w, w' = o'.val :=
  h.mono fun _ _ ⟨he, hb⟩ => ⟨he, ⟨_, belowThen o.ok hb⟩, rfl⟩
end Go.Proofs.Ytllaohobmkcmfaa

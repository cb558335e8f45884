/- Nothing is known of calls. -/
import Derived.Test.YtcllgicphjmamabChecked
import Derived.Test.YtcllgicphjmamabKv16
namespace Go.Proofs.Ytcllgicphjmamab.ev
instance k0 : Kn := ⟨fun _ _ => none⟩
instance k0ok : KnowOk Try.prog := ⟨fun _ _ _ h => by cases h⟩
end Go.Proofs.Ytcllgicphjmamab.ev

/- Nothing is known of calls. -/
import Derived.Test.YtnmgjigeejpmkabChecked
import Derived.Test.YtnmgjigeejpmkabKv16
namespace Go.Proofs.Ytnmgjigeejpmkab.ev
instance k0 : Kn := ⟨fun _ _ => none⟩
instance k0ok : KnowOk Try.prog := ⟨fun _ _ _ h => by cases h⟩
end Go.Proofs.Ytnmgjigeejpmkab.ev

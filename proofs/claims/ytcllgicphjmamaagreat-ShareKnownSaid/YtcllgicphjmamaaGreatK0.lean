/- Nothing is known of calls. -/
import Derived.Test.YtcllgicphjmamaaGreatChecked
import Derived.Test.YtcllgicphjmamaaGreatKv16
namespace Go.Proofs.YtcllgicphjmamaaGreat.ev
instance k0 : Kn := ⟨fun _ _ => none⟩
instance k0ok : KnowOk Tryz.prog := ⟨fun _ _ _ h => by cases h⟩
end Go.Proofs.YtcllgicphjmamaaGreat.ev

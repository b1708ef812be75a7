/- The walk of ArbiterQueues, all cases. Conditions stand in each theorem. -/
import Derived.Test.YtildofclgofjdaaQC
namespace Go.Proofs.Ytildofclgofjdaa
open Go.RowKit
theorem queues_walk (wt : Bool) (bu hi me lo : Int) (v : Value) (ws : List Int) (mny : Int) (w : World) (hv : Ints w v ws) (hr : ∀ x ∈ ws, I64 x) :
    Calls Try.prog 7 #[.agg #[.bool wt, .int .i64 bu, .int .i64 hi, .int .i64 me, .int .i64 lo], v, .int .i64 mny] w (OkPost w) := by
  have hv2 := hv
  obtain ⟨A, c, rfl, _⟩ := hv
  cases hb : valB wt bu hi me lo
  · exact queues_bad wt bu hi me lo A _ c mny w hb
  · by_cases hn : 30 < ws.length
    · exact queues_long wt bu hi me lo A _ c mny w hb hn
    · exact queues_main wt bu hi me lo A c ws mny w hv2 hr hb (by omega)
end Go.Proofs.Ytildofclgofjdaa

/- The numbers under which the seat holds the functions and types of sync.Mutex, and that it holds them. -/
import Derived.Test.YtmpnjijbahjinauChecked
import Derived.Conc.RwLib
import Derived.KernelRfl
namespace Go.Proofs
abbrev Try.muLink : Go.Conc.Locks.MuLink := { lock := 60, unlock := 61, ilock := 65, iunlock := 66, lockSlow := 72, unlockSlow := 75, disable := 68, enable := 70, acquire := 71, relMerge := 73, cas32 := 69, add32 := 74, tMutex := 76, tIMutex := 74, tPMutex := 87, tPIMutex := 89, tPI32 := 91, tUP := 93, tNoCopy := 71, tU32 := 72 }
theorem Try.muLib : Go.Conc.Locks.MuLib Try.prog Try.muLink :=
  ⟨Try.func60, Try.func61, Try.func65, Try.func66, Try.func68, Try.func70, Try.func71, Try.func73, Try.func69, Try.func74, Try.underlying74, Try.runUnderlying74, Try.sizeOf74, Try.isAgg74, Try.zeroValue74, Try.underlying76, Try.runUnderlying76, Try.sizeOf76, Try.isAgg76, Try.zeroValue76, Try.underlying87, Try.runUnderlying87, Try.sizeOf87, Try.isAgg87, Try.zeroValue87, Try.underlying89, Try.runUnderlying89, Try.sizeOf89, Try.isAgg89, Try.zeroValue89, Try.underlying91, Try.runUnderlying91, Try.sizeOf91, Try.isAgg91, Try.zeroValue91, Try.underlying93, Try.runUnderlying93, Try.sizeOf93, Try.isAgg93, Try.zeroValue93, Try.underlying71, Try.runUnderlying71, Try.sizeOf71, Try.isAgg71, Try.zeroValue71, Try.underlying21, Try.runUnderlying21, Try.sizeOf21, Try.isAgg21, Try.zeroValue21, (by kernel_rfl)⟩
end Go.Proofs

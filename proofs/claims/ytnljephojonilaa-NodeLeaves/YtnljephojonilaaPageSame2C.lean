/-
  The walks of girderlaw03.ref, girderref03.Same, girderlaw03.same, page.Kind, girderref03.Turned.
-/
import Derived.Test.YtnljephojonilaaBase3C
namespace Go.Proofs.Ytnljephojonilaa
open Go.RowKit Go.Sort
set_option linter.unusedVariables false



/-- 'string([]byte{byte(k)}) + h'. -/
def kindS (k : Int) (h : ByteArray) : ByteArray := ⟨#[UInt8.ofNat (k % 256).toNat]⟩ ++ h

theorem one_byteI {P : Program} (w : World) (k : Int) (src dst el : TypeId) (hs : P.underlying src = some (.slice el)) (he : P.underlying el = some (.int .u8)) (hd : P.underlying dst = some .string) :
    (convert src dst (.slice (some ⟨w.heap.size, 0, none⟩) 1 1)).run P (w.alloc (.cells #[.int .u8 (k % 256)] el)) = .ok (.string ⟨#[UInt8.ofNat (k % 256).toNat]⟩) (w.alloc (.cells #[.int .u8 (k % 256)] el)) := by
  refine RowU.toString (N := 1) (f := fun _ => k % 256) (fun j hj => ?_) [UInt8.ofNat (k % 256).toNat] rfl (fun j hj => ?_) src dst el hs he hd
  · obtain rfl : j = 0 := by omega
    exact ⟨by simp, by simp⟩
  · obtain rfl : j = 0 := by simpa using hj
    simp; omega

set_option maxHeartbeats 400000 in
set_option maxRecDepth 60000 in
theorem kind_any (k : Int) (h : ByteArray) (w : World) (hh : h.size ≤ 140737488351232) :
    Calls Try.prog 84 #[.int .i64 k, .string h] w fun e w' => e = .returned (.string (kindS k h)) ∧ Below w.heap.size w w' := by
  have hcv := one_byteI (P := Try.prog) w k 93 9 5 Try.underlying93 Try.underlying5 Try.underlying9
  have hl1 : (ByteArray.mk #[UInt8.ofNat (k % 256).toNat]).size = 1 := rfl
  go_enter Try.func84, Try.ntmps84
  go_wp2
  go_ret
  exact ⟨rfl, (Below.refl _ _).alloc (Nat.le_refl _) _⟩





end Go.Proofs.Ytnljephojonilaa

/-
  The walks of girderlaw03.ref, girderref03.Same, girderlaw03.same, page.Kind, girderref03.Turned.
-/
import Derived.Test.YtpggeejolajmgaaPageSame
namespace Go.Proofs.Ytpggeejolajmgaa
open Go.RowKit Go.Sort
set_option linter.unusedVariables false

set_option maxHeartbeats 400000 in
theorem ref_any (p : SheetV) (a : Option Addr) (c : Nat) (w : World) :
    Calls Try.prog 9 #[p.val a c] w fun e w' => e = .returned (p.val a c) ∧ Below w.heap.size w w' := by
  obtain ⟨n, l, k, h, L⟩ := p
  simp only [SheetV.val]
  go_enter Try.func9, Try.ntmps9
  go_wp2
  refine bodyPost_ret (v := .agg #[.int .u32 n, .int .u64 l, .int .i64 k, .string h, .slice a L.length c]) (by simp [results, Try.results9, go_sem]) rfl ?_
  exact ⟨rfl, ((Below.refl _ _).alloc (Nat.le_refl _) _).alloc (by simp) _⟩

/-- 'string([]byte{byte(k)}) + h'. -/
def kindS (k : Int) (h : ByteArray) : ByteArray := ⟨#[UInt8.ofNat (k % 256).toNat]⟩ ++ h

theorem one_byteI {P : Program} (w : World) (k : Int) (src dst el : TypeId) (hs : P.underlying src = some (.slice el)) (he : P.underlying el = some (.int .u8)) (hd : P.underlying dst = some .string) :
    (convert src dst (.slice (some ⟨w.heap.size, 0, none⟩) 1 1)).run P (w.alloc (.cells #[.int .u8 (k % 256)] el)) = .ok (.string ⟨#[UInt8.ofNat (k % 256).toNat]⟩) (w.alloc (.cells #[.int .u8 (k % 256)] el)) := by
  refine RowU.toString (N := 1) (f := fun _ => k % 256) (fun j hj => ?_) [UInt8.ofNat (k % 256).toNat] rfl (fun j hj => ?_) src dst el hs he hd
  · obtain rfl : j = 0 := by omega
    exact ⟨by simp, by simp⟩
  · obtain rfl : j = 0 := by simpa using hj
    simp; omega

set_option maxHeartbeats 400000 in
theorem kind_any (k : Int) (h : ByteArray) (w : World) (hh : h.size ≤ 140737488351232) :
    Calls Try.prog 113 #[.int .i64 k, .string h] w fun e w' => e = .returned (.string (kindS k h)) ∧ Below w.heap.size w w' := by
  have hcv := one_byteI (P := Try.prog) w k 125 9 5 Try.underlying125 Try.underlying5 Try.underlying9
  have hl1 : (ByteArray.mk #[UInt8.ofNat (k % 256).toNat]).size = 1 := rfl
  go_enter Try.func113, Try.ntmps113
  go_wp2
  go_ret
  exact ⟨rfl, (Below.refl _ _).alloc (Nat.le_refl _) _⟩





end Go.Proofs.Ytpggeejolajmgaa

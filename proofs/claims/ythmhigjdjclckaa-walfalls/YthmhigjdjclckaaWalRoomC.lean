/-
  The walks of Keep, Give, Spend, and of Append where there is no room.
-/
import Derived.Test.YthmhigjdjclckaaWalAwakeC
import Derived.StillTailTactics
namespace Go.Proofs.Ythmhigjdjclckaa
open Go.RowKit
set_option linter.unusedVariables false

section
variable {w : World} {p : Nat} {S : Nat → Prop} {l : LG}

theorem Moves.cell (h : IsLog w p S l) (i : Nat) (v : Value) : Moves S S w (w.setCell ⟨p, i, none⟩ v) := Moves.of_kept (Kept.setCell _ _ _ _ _ h.has)

set_option maxHeartbeats 400000 in
set_option maxRecDepth 8000 in
theorem keep_full (h : IsLog w p S l) (hb : l.bytes.length ≤ 4194304) (hk : l.kept ≤ 4194304) (n : Nat) (hn : n ≤ 1000000000) (hm : (4194304 : Int) - l.bytes.length - l.kept < n) :
    Calls Try.prog 27 #[.pointer (some ⟨p, 0, none⟩), .int .i64 n] w fun e w' => e = .returned (.int .i64 50) ∧ w' = w.drew := by
  have hD : IsLog w.drew p S l := h.same (fun _ _ => rfl) (Nat.le_refl _)
  have HR := hid (room_out hD hb)
  have c5 := h.cell5
  have k0 : decide ((n : Int) < 0) = false := by simp
  have k1 : decide ((4194304 : Int) - l.bytes.length - l.kept < (n : Int)) = true := by simp; omega
  have hw : IntKind.i64.wrap ((4194304 : Int) - (l.bytes.length : Int) - (l.kept : Int)) = (4194304 : Int) - (l.bytes.length : Int) - (l.kept : Int) := by rw [IntKind.wrap_i64]; omega
  go_enter Try.func27, Try.ntmps27
  go_wp2_with fail
  go_region_held3 (fun w' => w'.cell? ⟨p, 5, none⟩ = some (.int .i64 l.kept)) (first | exact c5 | go_keep)
    (first | (go_at_call 34; refine HR.out.mono ?_; rintro x w3 ⟨rfl, rfl⟩))
  go_wp2
  go_ret
  exact ⟨rfl, rfl⟩

set_option maxHeartbeats 400000 in
set_option maxRecDepth 8000 in
theorem keep_ok (h : IsLog w p S l) (hb : l.bytes.length ≤ 4194304) (hk : l.kept ≤ 4194304) (n : Nat) (hn : n ≤ 1000000000) (hm : (n : Int) ≤ (4194304 : Int) - l.bytes.length - l.kept) :
    Calls Try.prog 27 #[.pointer (some ⟨p, 0, none⟩), .int .i64 n] w fun e w' => e = .returned (.int .i64 0) ∧ IsLog w' p S { l with kept := l.kept + n } ∧ Moves S S w w' := by
  have hD : IsLog w.drew p S l := h.same (fun _ _ => rfl) (Nat.le_refl _)
  have HR := hid (room_out hD hb)
  have HD := hid hD
  have c5 := h.cell5
  have f5 : w.frozen? ⟨p, 5, none⟩ = false := by obtain ⟨_, _, hL, _⟩ := h; exact hL.cells.fr 5
  have k0 : decide ((n : Int) < 0) = false := by simp
  have k1 : decide ((4194304 : Int) - l.bytes.length - l.kept < (n : Int)) = false := by simp; omega
  have hw : IntKind.i64.wrap ((4194304 : Int) - (l.bytes.length : Int) - (l.kept : Int)) = (4194304 : Int) - (l.bytes.length : Int) - (l.kept : Int) := by rw [IntKind.wrap_i64]; omega
  have HF : Hid (IsLog ((w.setCell ⟨p, 5, none⟩ (.int .i64 ((l.kept : Int) + (n : Int)))).drew) p S { l with kept := l.kept + n } ∧ Moves S S w ((w.setCell ⟨p, 5, none⟩ (.int .i64 ((l.kept : Int) + (n : Int)))).drew)) := by
    have s1 : IsLog (w.setCell ⟨p, 5, none⟩ (.int .i64 ((l.kept : Int) + (n : Int)))) p S { l with kept := l.kept + n } := h.set (fun _ _ => rfl) rfl rfl
    exact ⟨s1.same (fun _ _ => rfl) (Nat.le_refl _), (Moves.cell h 5 _).kept ((Kept.refl _ _).drew)⟩
  clear h hD
  go_enter Try.func27, Try.ntmps27
  go_wp2_with fail
  go_region_held3 (fun w' => w'.cell? ⟨p, 5, none⟩ = some (.int .i64 l.kept)) (first | exact c5 | go_keep)
    (first | (go_at_call 34; refine HR.out.mono ?_; rintro x w3 ⟨rfl, rfl⟩))
  go_wp2
  go_ret
  exact ⟨rfl, HF.out⟩

set_option maxHeartbeats 400000 in
set_option maxRecDepth 8000 in
theorem give_any (h : IsLog w p S l) (hk : l.kept ≤ 4194304) (n : Nat) (hn : n ≤ 1000000000) :
    Calls Try.prog 29 #[.pointer (some ⟨p, 0, none⟩), .int .i64 n] w fun e w' => e = .returned (.int .i64 ((l.kept - n : Nat) : Int)) ∧ IsLog w' p S { l with kept := l.kept - n } ∧ Moves S S w w' := by
  have c5 := h.cell5
  have f5 : w.frozen? ⟨p, 5, none⟩ = false := by obtain ⟨_, _, hL, _⟩ := h; exact hL.cells.fr 5
  have HF : Hid (IsLog ((w.setCell ⟨p, 5, none⟩ (.int .i64 ((l.kept - n : Nat) : Int))).drew) p S { l with kept := l.kept - n } ∧ Moves S S w ((w.setCell ⟨p, 5, none⟩ (.int .i64 ((l.kept - n : Nat) : Int))).drew)) := by
    have s1 : IsLog (w.setCell ⟨p, 5, none⟩ (.int .i64 ((l.kept - n : Nat) : Int))) p S { l with kept := l.kept - n } := h.set (fun _ _ => rfl) rfl rfl
    exact ⟨s1.same (fun _ _ => rfl) (Nat.le_refl _), (Moves.cell h 5 _).kept ((Kept.refl _ _).drew)⟩
  have em : (l.kept : Int) - min (n : Int) (l.kept : Int) = ((l.kept - n : Nat) : Int) := by omega
  clear h
  go_enter Try.func29, Try.ntmps29
  go_wp2_with fail
  go_still_tail 14, (by kernel_rfl)
  go_wp2_with fail
  go_ret
  exact ⟨rfl, HF.out⟩

set_option maxHeartbeats 400000 in
set_option maxRecDepth 8000 in
theorem append_full (h : IsLog w p S l) (hb : l.bytes.length ≤ 4194304) (hk : l.kept ≤ 4194304) (s : ByteArray) (h1 : 1 ≤ s.size) (h2 : s.size ≤ 8192) (hm : 4194304 < s.size + 12 + l.kept + l.bytes.length) :
    Calls Try.prog 14 #[.pointer (some ⟨p, 0, none⟩), .string s] w fun e w' => e = .returned (.tuple #[.int .u64 0, .int .i64 50]) ∧ Below w.heap.size w w' := by
  have hD : IsLog w.drew p S l := h.same (fun _ _ => rfl) (Nat.le_refl _)
  have HR := hid (room_out hD hb)
  have HP := hid (put_full hD hb s h1 h2 ((4194304 : Int) - (l.bytes.length : Int) - (l.kept : Int)) (by omega))
  have HD := hid hD
  have c5 := h.cell5
  have hsub : IntKind.i64.wrap ((4194304 : Int) - (l.bytes.length : Int) - (l.kept : Int)) = (4194304 : Int) - (l.bytes.length : Int) - (l.kept : Int) := by rw [IntKind.wrap_i64]; omega
  go_enter Try.func14, Try.ntmps14
  go_wp2_with fail
  go_region_held3 (fun w' => w'.cell? ⟨p, 5, none⟩ = some (.int .i64 l.kept)) (first | go_keep | assumption | exact hc5)
    (first | (go_at_call 34; refine HR.out.mono ?_; rintro x w3 ⟨rfl, rfl⟩) | (go_at_call 44; refine HP.out.mono ?_; rintro x w4 ⟨rfl, b4⟩; have hc5 : w4.cell? ⟨p, 5, none⟩ = some (.int .i64 l.kept) := (HD.out.below b4).cell5))
  go_wp2
  go_ret2
  exact ⟨rfl, ((Below.refl _ _).drew).trans b4⟩

set_option maxHeartbeats 400000 in
set_option maxRecDepth 8000 in
theorem spend_out (h : IsLog w p S l) (hb : l.bytes.length ≤ 4194304) (hn : l.starts.length ≤ 10000000) (hk : l.kept ≤ 4194304) (s : ByteArray) (h1 : 1 ≤ s.size) (h2 : s.size ≤ 8192) (hm : s.size + 12 + l.bytes.length ≤ 4194304) :
    Calls Try.prog 25 #[.pointer (some ⟨p, 0, none⟩), .string s] w fun e w' => e = .returned (.tuple #[.int .u64 ((l.bytes.length + 1 : Nat) : Int), .int .i64 0]) ∧ ∃ S', IsLog w' p S' { putG l s with kept := l.kept - (s.size + 12) } ∧ Moves S S' w w' := by
  have HR := hid (room_out h hb)
  have HP := hid (put_ok h hb hn s h1 h2 ((4194304 : Int) - (l.bytes.length : Int)) (by omega))
  clear h
  go_enter Try.func25, Try.ntmps25
  go_wp2_with fail
  refine HR.out.mono ?_
  rintro x w3 ⟨rfl, rfl⟩
  go_wp2_with fail
  refine HP.out.mono ?_
  rintro x w4 ⟨rfl, S4, hL4, hM4⟩
  have HM := hid hM4
  have HL := hid hL4
  clear hM4 hL4 HP HR
  go_wp2_with fail
  refine (give_any HL.out (by show l.kept ≤ _; omega) (s.size + 12) (by omega)).mono ?_
  rintro e w5 ⟨rfl, hL5, hM5⟩
  have HF := hid (⟨S4, hL5, HM.out.trans hM5⟩ : ∃ S', IsLog w5 p S' { putG l s with kept := l.kept - (s.size + 12) } ∧ Moves S S' w3 w5)
  clear hL5 hM5 HM HL
  go_wp2
  go_ret2
  exact ⟨rfl, HF.out⟩

end

end Go.Proofs.Ythmhigjdjclckaa

/-
  The walks of girderlaw03.ref, girderref03.Same, girderlaw03.same, page.Kind, girderref03.Turned.
-/
import Derived.Test.YtbkdedkifbffhaaPageSame
namespace Go.Proofs.Ytbkdedkifbffhaa
open Go.RowKit Go.Sort
set_option linter.unusedVariables false

set_option maxHeartbeats 400000 in
theorem ref_any (p : SheetV) (a : Option Addr) (c : Nat) (w : World) :
    Calls Try.prog 11 #[p.val a c] w fun e w' => e = .returned (p.val a c) ∧ Below w.heap.size w w' := by
  obtain ⟨n, l, k, h, L⟩ := p
  simp only [SheetV.val]
  go_enter Try.func11, Try.ntmps11
  go_wp2
  refine bodyPost_ret (v := .agg #[.int .u32 n, .int .u64 l, .int .i64 k, .string h, .slice a L.length c]) (by simp [results, Try.results11, go_sem]) rfl ?_
  exact ⟨rfl, ((Below.refl _ _).alloc (Nat.le_refl _) _).alloc (by simp) _⟩

/-- 'string([]byte{byte(k)}) + h'. -/
def kindS (k : Int) (h : ByteArray) : ByteArray := ⟨#[UInt8.ofNat (k % 256).toNat]⟩ ++ h

theorem one_byteI {P : Program} (w : World) (k : Int) (src dst el : TypeId) (hs : P.underlying src = some (.slice el)) (he : P.underlying el = some (.int .u8)) (hd : P.underlying dst = some .string) :
    (convert src dst (.slice (some ⟨w.heap.size, 0, none⟩) 1 1)).run P (w.alloc (.cells #[.int .u8 (k % 256)] el)) = .ok (.string ⟨#[UInt8.ofNat (k % 256).toNat]⟩) (w.alloc (.cells #[.int .u8 (k % 256)] el)) := by
  refine RowU.toString (N := 1) (f := fun _ => k % 256) (fun j hj => ?_) [UInt8.ofNat (k % 256).toNat] rfl (fun j hj => ?_) src dst el hs he hd
  · obtain rfl : j = 0 := by omega
    exact ⟨by simp, by simp⟩
  · obtain rfl : j = 0 := by simpa using hj
    simp; omega

set_option maxHeartbeats 400000 in
theorem kind_any (k : Int) (h : ByteArray) (w : World) (hh : h.size ≤ 140737488351232) :
    Calls Try.prog 28 #[.int .i64 k, .string h] w fun e w' => e = .returned (.string (kindS k h)) ∧ Below w.heap.size w w' := by
  have hcv := one_byteI (P := Try.prog) w k 67 9 5 Try.underlying67 Try.underlying5 Try.underlying9
  have hl1 : (ByteArray.mk #[UInt8.ofNat (k % 256).toNat]).size = 1 := rfl
  go_enter Try.func28, Try.ntmps28
  go_wp2
  go_ret
  exact ⟨rfl, (Below.refl _ _).alloc (Nat.le_refl _) _⟩

set_option maxHeartbeats 400000 in
theorem turned_any (k : Int) (h : ByteArray) (w : World) (hh : h.size ≤ 140737488351232) :
    Calls Try.prog 29 #[.int .i64 k, .string h] w fun e w' => e = .returned (.string (kindS k h)) ∧ Below w.heap.size w w' := by
  have hcv := one_byteI (P := Try.prog) w k 67 9 5 Try.underlying67 Try.underlying5 Try.underlying9
  have hl1 : (ByteArray.mk #[UInt8.ofNat (k % 256).toNat]).size = 1 := rfl
  go_enter Try.func29, Try.ntmps29
  go_wp2
  go_ret
  exact ⟨rfl, (Below.refl _ _).alloc (Nat.le_refl _) _⟩

set_option maxHeartbeats 1600000 in
theorem refSame_any (p q : SheetV) (a1 a2 : Option Addr) (c d : Nat) (w : World) (hp : p.Ok w a1) (hq : q.Ok w a2) :
    Calls Try.prog 30 #[p.val a1 c, q.val a2 d] w fun e w' => e = .returned (.bool (sameB p q)) ∧ Below w.heap.size w w' := by
  have hm1 := hp.mem
  have hm2 := hq.mem
  have hn1 := hp.num
  have hn2 := hq.num
  have hl1 := hp.len
  have hl2 := hq.len
  have HS : Hid (sameB p q = decide (p.num = q.num ∧ p.kind = q.kind ∧ p.head = q.head ∧ p.slots = q.slots)) := rfl
  generalize sameB p q = R at *
  clear hp hq
  obtain ⟨n1, l1, k1, h1, L⟩ := p
  obtain ⟨n2, l2, k2, h2, M⟩ := q
  simp only [SheetV.val] at *
  by_cases e1 : n1 = n2
  · by_cases e2 : k1 = k2
    · by_cases e3 : h1 = h2
      · have HR : Hid (R = decide (L = M)) := by show _ = _; rw [HS.out]; simp [e1, e2, e3]
        clear HS
        subst e1 e2 e3
        by_cases e4 : L.length = M.length
        · have e4' : ((L.length : Int) == (M.length : Int)) = true := by rw [beq_iff_eq]; omega
          have E4 : Hid (L.length = M.length) := e4
          clear e4
          go_enter Try.func30, Try.ntmps30
          have HB : ∃ W, Hid (W = (w.alloc (.cells #[.int .u32 n1, .int .u64 l1, .int .i64 k1, .string h1, .slice a1 L.length c] 35)).alloc (.cells #[.int .u32 n1, .int .u64 l2, .int .i64 k1, .string h1, .slice a2 M.length d] 35)) := ⟨_, rfl⟩
          obtain ⟨W, HW⟩ := HB
          have bel : Below w.heap.size w W := by rw [HW.out]; exact ((Below.refl _ _).alloc (Nat.le_refl _) _).alloc (by simp) _
          have c1 : W.cell? ⟨w.heap.size, 4, none⟩ = some (.slice a1 L.length c) := by rw [HW.out]; simp
          have c2 : W.cell? ⟨w.heap.size + 1, 4, none⟩ = some (.slice a2 M.length d) := by rw [HW.out]; simp
          go_wp2_with fail
          rw [← HW.out]
          clear HW
          have q1 := hm1.below bel
          have q2 := hm2.below bel
          go_loopw [5] (fun i wr => ∃ k q : Nat, k ≤ L.length ∧ i = .int .i64 k ∧ wr = W.drewN q ∧ Hid (L.take k = M.take k)) (fun i _ => L.length - (intOf i).toNat)
          case atStart => exact ⟨0, 0, by omega, rfl, rfl, rfl⟩
          case round =>
            obtain ⟨k, q, hk, rfl, rfl, HT⟩ := hrel
            by_cases hlt : k < L.length
            · have hlt' : k < M.length := by have := E4.out; omega
              obtain ⟨b1, o1, rfl, g1⟩ := q1.reach (Below.refl _ _) hlt
              obtain ⟨b2, o2, rfl, g2⟩ := q2.reach (Below.refl _ _) hlt'
              have hi0 : (0 : Int) ≤ (k : Int) := by omega
              have hi1 : (k : Int) < (L.length : Int) := by omega
              have hi2 : (k : Int) < (M.length : Int) := by omega
              have HT1 : Hid (L[k] = M[k] → L.take (k + 1) = M.take (k + 1)) := fun e => by
                rw [List.take_succ_eq_append_getElem hlt, List.take_succ_eq_append_getElem hlt', HT.out, e]
              have HT2 : Hid (L[k] ≠ M[k] → L ≠ M) := fun e e' => e (by subst e'; rfl)
              obtain ⟨s1, hs1⟩ : ∃ s, L[k] = s := ⟨_, rfl⟩
              obtain ⟨s2, hs2⟩ : ∃ s, M[k] = s := ⟨_, rfl⟩
              rw [hs1] at g1 HT1 HT2
              rw [hs2] at g2 HT1 HT2
              clear hs1 hs2
              by_cases es : s1 = s2
              · have es' := str_eq es
                go_wp2_with fail
                go_quiet (fail)
                go_wp2
                go_roundw
                case rel => exact ⟨k + 1, q + nq, by omega, by go_num, rfl, HT1.out es⟩
                case measure => simp [intOf]; omega
              · have es' := str_ne es
                have HR' : Hid (R = false) := by
                  show _ = _; rw [HR.out]; simp [HT2.out es]
                go_wp2_with fail
                go_quiet (fail)
                go_wp2
                go_ret
                exact ⟨by rw [HR'.out]; rfl, below_drewN (below_drewN bel q) nq⟩
            · obtain rfl : k = L.length := by omega
              have HR' : Hid (R = true) := by
                have := HT.out
                rw [List.take_length, E4.out, List.take_length] at this
                show _ = _; rw [HR.out]; simp [this]
              go_wp2
              go_ret
              exact ⟨by rw [HR'.out]; rfl, below_drewN bel q⟩
        · have e4' : ((L.length : Int) == (M.length : Int)) = false := by rw [beq_eq_false_iff_ne]; omega
          have HR' : Hid (R = false) := by
            show _ = _; rw [HR.out]; have : ¬ L = M := fun e => e4 (by rw [e])
            simp [this]
          go_enter Try.func30, Try.ntmps30
          go_wp2
          go_ret
          exact ⟨by rw [HR'.out]; rfl, ((Below.refl _ _).alloc (Nat.le_refl _) _).alloc (by simp) _⟩
      · have HR : Hid (R = false) := by show _ = _; rw [HS.out]; simp [e3]
        have e3' := str_ne e3
        clear HS
        subst e1 e2
        go_enter Try.func30, Try.ntmps30
        go_wp2
        go_ret
        exact ⟨by rw [HR.out]; rfl, ((Below.refl _ _).alloc (Nat.le_refl _) _).alloc (by simp) _⟩
    · have HR : Hid (R = false) := by show _ = _; rw [HS.out]; simp [e2]
      have e2' : (k1 == k2) = false := by rw [beq_eq_false_iff_ne]; exact e2
      clear HS
      subst e1
      go_enter Try.func30, Try.ntmps30
      go_wp2
      go_ret
      exact ⟨by rw [HR.out]; rfl, ((Below.refl _ _).alloc (Nat.le_refl _) _).alloc (by simp) _⟩
  · have HR : Hid (R = false) := by show _ = _; rw [HS.out]; simp [e1]
    have e1' : ((n1 : Int) == (n2 : Int)) = false := by rw [beq_eq_false_iff_ne]; omega
    clear HS
    go_enter Try.func30, Try.ntmps30
    go_wp2
    go_ret
    exact ⟨by rw [HR.out]; rfl, ((Below.refl _ _).alloc (Nat.le_refl _) _).alloc (by simp) _⟩

end Go.Proofs.Ytbkdedkifbffhaa

/-
  The walks of key.lay with key.Key's two functions, and of key.Key.
-/
import Derived.Test.YtgammhmgdafpkaaDoorKeyRow
import Derived.Test.YtgammhmgdafpkaaDoorKeyEsc
namespace Go.Proofs.YtgammhmgdafpkaaDoor
open Go.RowKit Go.Sort
set_option linter.unusedVariables false
set_option linter.unusedSimpArgs false

set_option maxHeartbeats 400000 in
theorem keyNum_any {w : World} {b B : Nat} {l : List UInt8} {a : Option Addr} {c : Nat} (h : LayAt w b B l a c) (n : Int) (hl : l.length + 8 ≤ 140737488355328) :
    Calls Tryd.prog 22 #[.int .i64 n, .pointer (some ⟨B, 0, none⟩)] w fun y w' =>
      y = .returned (.tuple #[]) ∧ (∃ a' c', LayAt w' b B (l ++ (putL (toU (n + 9223372036854775808)) 8).reverse) a' c') ∧ Below b w w' := by
  have hc := h.cell
  have hd : w.drew.cell? ⟨B, 0, none⟩ = some (.pointer (some ⟨b, 0, none⟩)) := by simpa using hc
  have hu := u64_wrap n
  have hx := xor_int n
  have HD := hidk (h.below ((Below.refl w.heap.size w).drew))
  have HN : Hid (Calls Tryd.prog 23 #[.pointer (some ⟨b, 0, none⟩), .int .u64 (rvN (toU (n + 9223372036854775808))), .int .i64 8] w.drew fun y w' => y = .returned (.tuple #[]) ∧ (∃ a' c', LayAt w' b B (l ++ (putL (toU (n + 9223372036854775808)) 8).reverse) a' c') ∧ Below b w w') := by
    refine (wnumber_s HD.out.wr (rvN (toU (n + 9223372036854775808))) 8 (rvN_lt (u64_lt _)) hl).mono ?_
    rintro y w2 ⟨rfl, ⟨a', c', h2⟩, b2, s2⟩
    rw [show longOf 8 = 8 from rfl, putL_rv] at h2
    exact ⟨rfl, ⟨a', c', HD.out.safe h2 s2⟩, ((Below.refl b w).drew).trans b2⟩
  have HV : Hid (∀ wx, Calls Tryd.prog 24 #[.int .u64 (toU (n + 9223372036854775808) : Nat)] wx fun e w' => e = .returned (.int .u64 (rvN (toU (n + 9223372036854775808)))) ∧ w' = wx) := fun wx => rev_any _ wx (u64_lt _)
  generalize toU (n + 9223372036854775808) = X at *
  generalize rvN X = Y at *
  clear h HD
  go_enter Tryd.func22, Tryd.ntmps22
  go_wp2_with fail
  go_region_with (first | (go_at_call 24; refine (HV.out _).mono ?_; rintro e w' ⟨rfl, rfl⟩) | (go_at_call 23; refine HN.out.mono ?_; rintro y w2 ⟨rfl, h2, b2⟩))
  all_goals
    go_wp2
    go_end0
    exact ⟨rfl, h2, b2⟩

set_option maxHeartbeats 800000 in
theorem keyText_any {w : World} {b B : Nat} {l : List UInt8} {a : Option Addr} {c : Nat} (h : LayAt w b B l a c) (s : ByteArray) (hs : s.size ≤ 20) {m : Int} (hm : w.cell? maxLenAt = some (.int .i64 m)) (hl : l.length + 48 ≤ 140737488355328) :
    Calls Tryd.prog 25 #[.string s, .pointer (some ⟨B, 0, none⟩)] w fun y w' =>
      y = .returned (.tuple #[]) ∧ (∃ a' c', LayAt w' b B (l ++ (escL s.data.toList ++ [0, 0])) a' c') ∧ Below b w w' := by
  have hc := h.cell
  have hd : w.drew.cell? ⟨B, 0, none⟩ = some (.pointer (some ⟨b, 0, none⟩)) := by simpa using hc
  have hlt := h.lt
  have hbw := h.wr.lt
  have hel := escL_length s.data.toList
  have hsl : s.data.toList.length = s.size := by simp
  have HR : Hid (Calls Tryd.prog 27 #[.string s, .string ⟨#[0]⟩, .string ⟨#[0, 255]⟩] w.drew fun e w' => e = .returned (.string ⟨(escL s.data.toList).toArray⟩) ∧ w'.cell? ⟨B, 0, none⟩ = some (.pointer (some ⟨b, 0, none⟩)) ∧ LayAt w' b B l a c ∧ Below w.heap.size w w') := by
    refine (replace_any s m w.drew hs (by simpa using hm)).mono ?_
    rintro e w1 ⟨rfl, b1⟩
    have bb : Below w.heap.size w w1 := ((Below.refl w.heap.size w).drew).trans b1
    exact ⟨rfl, (h.below bb).cell, h.below bb, bb⟩
  have hE : (escL s.data.toList).length ≤ 40 := by omega
  generalize escL s.data.toList = E at *
  have hEs : (⟨E.toArray⟩ : ByteArray).size = E.length := bytes_size _
  clear h hel hsl hm
  go_enter Tryd.func25, Tryd.ntmps25
  go_wp2_with fail
  go_region_with (first | (go_at_call 27; refine HR.out.mono ?_; rintro e w1 ⟨rfl, k1, h1, b1⟩) | (go_at_call 26; refine (wbytes_s h1.wr ⟨E.toArray⟩ (by rw [hEs]; omega)).mono ?_; rintro y w2 ⟨rfl, ⟨a2, c2, h2⟩, b2, s2⟩))
  all_goals
    have h3 := h1.safe h2 s2
    have k3 := h3.cell
    have b3 : Below b w w2 := (b1.mono (by omega)).trans b2
    have hlen : (l ++ (ByteArray.mk E.toArray).data.toList).length + 2 ≤ 140737488355328 := by rw [List.length_append]; simp; omega
    clear HR h1 h2 s2 b1 b2 k1 hEs
    go_wp2_with fail
    refine (wbytes_s h3.wr ⟨#[0, 0]⟩ hlen).mono ?_
    rintro y w4 ⟨rfl, ⟨a4, c4, h4⟩, b4, s4⟩
    go_wp2
    go_end0
    refine ⟨rfl, ⟨a4, c4, ?_⟩, b3.trans b4⟩
    have := h3.safe h4 s4
    rw [List.append_assoc] at this
    simpa using this

theorem keyL_none {v : ValV} (h : v.kind = 0) : v.keyL = putL 0 1 := by
  unfold ValV.keyL; rw [h, if_neg (by omega), if_neg (by omega), List.append_nil]; rfl
theorem keyL_num {v : ValV} (h : v.kind = 1) : v.keyL = putL 1 1 ++ (putL (toU (v.n + 9223372036854775808)) 8).reverse := by
  unfold ValV.keyL; rw [h, if_pos rfl]; rfl
theorem keyL_text {v : ValV} (h : v.kind = 2) : v.keyL = putL 2 1 ++ (escL v.S.data.toList ++ [0, 0]) := by
  unfold ValV.keyL; rw [h, if_neg (by omega), if_pos rfl]; rfl

set_option maxHeartbeats 3200000 in
theorem layKey_any {w : World} {b B : Nat} {l : List UInt8} {a : Option Addr} {c : Nat} (h : LayAt w b B l a c) (a1 : Option Addr) (c1 : Nat) (L : List ValV) (hL : ∀ wr, Below b w wr → ValsAt wr a1 L)
    (hm : ∀ v ∈ L, v.may = true) (m : Int) (hmx : w.cell? maxLenAt = some (.int .i64 m)) (hmb : maxLenAt.block < b) (hlen : l.length + 64 * L.length + 64 ≤ 140737488355328) :
    Calls Tryd.prog 21 #[.pointer (some ⟨b, 0, none⟩), .slice a1 L.length c1, .func (.func 22) #[] #[.pointer (some ⟨B, 0, none⟩)], .func (.func 25) #[] #[.pointer (some ⟨B, 0, none⟩)]] w fun y w' =>
      y = .returned (.tuple #[]) ∧ (∃ a' c', LayAt w' b B (l ++ keysL L) a' c') ∧ Below b w w' := by
  have hbw : b < w.heap.size := h.wr.lt
  have HMX : Hid (∀ wx, Below b w wx → wx.cell? maxLenAt = some (.int .i64 m)) := fun wx k => (k.cell (p := maxLenAt) hmb).trans hmx
  clear hmx
  go_enter Tryd.func21, Tryd.ntmps21
  go_wp2_with fail
  go_loopw [12] (fun i wr => ∃ (k : Nat) (a' : Option Addr) (c' : Nat), k ≤ L.length ∧ i = .int .i64 k ∧ Hid (LayAt wr b B (l ++ keysL (L.take k)) a' c') ∧ Hid (Below b w wr) ∧ Hid ((keysL (L.take k)).length ≤ 64 * k)) (fun i _ => L.length - (intOf i).toNat)
  case atStart => exact ⟨0, a, c, by omega, rfl, by show LayAt _ _ _ _ _ _; rw [List.take_zero, keysL_nil, List.append_nil]; exact h, Below.refl _ _, by show _ ≤ _; rw [List.take_zero, keysL_nil]; simp⟩
  case round =>
    obtain ⟨k, a', c', hk, rfl, HA, HB, HZ⟩ := hrel
    by_cases hlt : k < L.length
    · have hL' := hL _ HB.out
      rcases hL' with hL' | ⟨q, o, rfl, hq, g⟩
      · rw [hL'] at hlt; simp at hlt
      have g := g k hlt
      have hmk := hm L[k] (List.getElem_mem hlt)
      have HT1 : Hid (keysL (L.take (k + 1)) = keysL (L.take k) ++ L[k].keyL) := by show _ = _; rw [List.take_succ_eq_append_getElem hlt, keysL_snoc]
      have hi0 : (0 : Int) ≤ (k : Int) := by omega
      have hi1 : (k : Int) < (L.length : Int) := by omega
      obtain ⟨v, Hv⟩ : ∃ v, Hid (L[k] = v) := ⟨L[k], rfl⟩
      rw [Hv.out] at g hmk HT1
      have hsz := may_size hmk
      have hrl := may_keyL_length hmk
      have HZ1 : Hid ((keysL (L.take k) ++ v.keyL).length ≤ 64 * (k + 1)) := by show _ ≤ _; rw [List.length_append]; have := HZ.out; omega
      have hlen1 : (l ++ keysL (L.take k)).length + 64 ≤ 140737488355328 := by rw [List.length_append]; have := HZ.out; omega
      obtain ⟨c0, c1', c2⟩ := g
      have hz : b ≤ wr.heap.size := by have := HB.out.size; omega
      have HA1 := hidk (HA.out.below ((Below.refl wr.heap.size wr).alloc (Nat.le_refl _) (.cells #[.int .i64 v.kind, .int .i64 v.n, .string v.S] 35)))
      have HB1 : Hid (Below b w (wr.alloc (.cells #[.int .i64 v.kind, .int .i64 v.n, .string v.S] 35))) := HB.out.alloc hz _
      have hlw : b < wr.heap.size := HA.out.wr.lt
      obtain ⟨X, HX⟩ : ∃ X, Hid (keysL (L.take k) = X) := ⟨_, rfl⟩
      rw [HX.out] at HA1 HT1 HZ1 hlen1
      obtain ⟨W1, HW1⟩ : ∃ W1, Hid (W1 = wr.alloc (.cells #[.int .i64 v.kind, .int .i64 v.n, .string v.S] 35)) := ⟨_, rfl⟩
      have hd0 : W1.heap[wr.heap.size]? = some (.cells #[.int .i64 v.kind, .int .i64 v.n, .string v.S] 35 (0, 0)) := by rw [HW1.out]; exact heap_alloc_new _ _
      have hW : wr.heap.size ≠ b := by omega
      rw [← HW1.out] at HA1 HB1
      have HN : Hid (∀ kk : Nat, kk ≤ 2 → Calls Tryd.prog 23 #[.pointer (some ⟨b, 0, none⟩), .int .u64 kk, .int .i64 1] W1 fun y w' => y = .returned (.tuple #[]) ∧ (∃ a' c', LayAt w' b B (l ++ X ++ putL kk 1) a' c') ∧ Below b w w' ∧ w'.heap[wr.heap.size]? = some (.cells #[.int .i64 v.kind, .int .i64 v.n, .string v.S] 35 (0, 0))) := fun kk hkk => by
        refine (wnumber_s HA1.out.wr kk 1 (by omega) (by omega)).mono ?_
        rintro y w2 ⟨rfl, ⟨a2, c2, h2⟩, b2, s2⟩
        exact ⟨rfl, ⟨a2, c2, HA1.out.safe h2 s2⟩, HB1.out.trans b2, s2 _ _ _ hW (by decide) hd0⟩
      have hl2 : ∀ kk : Nat, (l ++ X ++ putL kk 1).length + 48 ≤ 140737488355328 := fun kk => by rw [List.length_append, putL_length]; omega
      clear HA HB HZ hd0 HX h hL hm
      rcases v.may_kind hmk with e | e | e
      · have hr := hidk (keyL_none e)
        obtain ⟨vk, vn, vS⟩ := v
        simp only at e c0 c1' c2 hr HN HW1
        subst e
        go_wp2_with fail
        rw [← HW1.out]
        refine (HN.out 0 (by omega)).mono ?_
        rintro y w2 ⟨rfl, ⟨a2, c2, h2⟩, b2, d2⟩
        have y0 : w2.cell? ⟨wr.heap.size, 0, none⟩ = some (.int .i64 0) := by unfold World.cell?; simp [d2]
        go_wp2
        go_roundw
        case rel =>
          refine ⟨k + 1, a2, c2, by omega, by go_num, ?_, b2, ?_⟩
          · show LayAt _ _ _ _ _ _
            rw [HT1.out, hr.out, ← List.append_assoc]
            exact h2
          · show _ ≤ _
            rw [HT1.out]; exact HZ1.out
        case measure => simp [intOf]; omega
      · have hr := hidk (keyL_num e)
        obtain ⟨vk, vn, vS⟩ := v
        simp only at e c0 c1' c2 hr HN HW1
        subst e
        go_wp2_with fail
        rw [← HW1.out]
        refine (HN.out 1 (by omega)).mono ?_
        rintro y w2 ⟨rfl, ⟨a2, c2, h2⟩, b2, d2⟩
        have y0 : w2.cell? ⟨wr.heap.size, 0, none⟩ = some (.int .i64 1) := by unfold World.cell?; simp [d2]
        have y1 : w2.cell? ⟨wr.heap.size, 1, none⟩ = some (.int .i64 vn) := by unfold World.cell?; simp [d2]
        go_wp2_with fail
        refine (keyNum_any h2 vn (by have := hl2 1; omega)).mono ?_
        rintro y w3 ⟨rfl, ⟨a3, c3, h3⟩, b3⟩
        go_wp2
        go_roundw
        case rel =>
          refine ⟨k + 1, a3, c3, by omega, by go_num, ?_, b2.trans b3, ?_⟩
          · show LayAt _ _ _ _ _ _
            rw [HT1.out, hr.out, ← List.append_assoc, ← List.append_assoc]
            exact h3
          · show _ ≤ _
            rw [HT1.out]; exact HZ1.out
        case measure => simp [intOf]; omega
      · have hr := hidk (keyL_text e)
        obtain ⟨vk, vn, vS⟩ := v
        simp only at e c0 c1' c2 hr HN HW1 hsz
        subst e
        go_wp2_with fail
        rw [← HW1.out]
        refine (HN.out 2 (by omega)).mono ?_
        rintro y w2 ⟨rfl, ⟨a2, c2, h2⟩, b2, d2⟩
        have y0 : w2.cell? ⟨wr.heap.size, 0, none⟩ = some (.int .i64 2) := by unfold World.cell?; simp [d2]
        have y2 : w2.cell? ⟨wr.heap.size, 2, none⟩ = some (.string vS) := by unfold World.cell?; simp [d2]
        go_wp2_with fail
        refine (keyText_any h2 vS hsz (HMX.out _ b2) (hl2 2)).mono ?_
        rintro y w3 ⟨rfl, ⟨a3, c3, h3⟩, b3⟩
        go_wp2
        go_roundw
        case rel =>
          refine ⟨k + 1, a3, c3, by omega, by go_num, ?_, b2.trans b3, ?_⟩
          · show LayAt _ _ _ _ _ _
            rw [HT1.out, hr.out, ← List.append_assoc, ← List.append_assoc]
            exact h3
          · show _ ≤ _
            rw [HT1.out]; exact HZ1.out
        case measure => simp [intOf]; omega
    · have hkl : L.take k = L := List.take_of_length_le (by omega)
      rw [hkl] at HA
      clear hkl
      go_wp2
      go_end0
      exact ⟨rfl, ⟨a', c', HA.out⟩, HB.out⟩

end Go.Proofs.YtgammhmgdafpkaaDoor

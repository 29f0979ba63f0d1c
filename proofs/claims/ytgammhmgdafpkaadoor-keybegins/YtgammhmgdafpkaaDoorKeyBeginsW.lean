/-
  The walk of KeyBegins.
-/
import Derived.Test.YtgammhmgdafpkaaDoorKeyKey
import Derived.Test.YtgammhmgdafpkaaDoorKeySame
import Derived.Test.YtgammhmgdafpkaaDoorKeyRRow
namespace Go.Proofs.YtgammhmgdafpkaaDoor
open Go.RowKit Go.Sort
set_option linter.unusedVariables false
set_option linter.unusedSimpArgs false

theorem ValsAt.take {w : World} {a : Option Addr} {L : List ValV} (h : ValsAt w a L) (k : Nat) : ValsAt w a (L.take k) := by
  rcases h with h | ⟨b, o, e, hb, hc⟩
  · exact .inl (by rw [h]; simp)
  · refine .inr ⟨b, o, e, hb, fun i hi => ?_⟩
    have hi' : i < L.length := by rw [List.length_take] at hi; omega
    have := hc i hi'
    rw [List.getElem_take]
    exact this

theorem mod_pick (n : Int) (q : Nat) : ∃ (r : Int) (k : Nat), n.tmod ((q : Int) + 1) = r ∧ -(q : Int) ≤ r ∧ r ≤ q ∧ (r + q + 1) % ((q : Int) + 1) = k ∧ (r + q + 1).tmod ((q : Int) + 1) = k ∧ k ≤ q := by
  have h1 : n.tmod ((q : Int) + 1) < (q : Int) + 1 := Int.tmod_lt_of_pos n (by omega)
  have h2 : -((q : Int) + 1) < n.tmod ((q : Int) + 1) := by
    have := Int.tmod_lt_of_pos (-n) (b := (q : Int) + 1) (by omega)
    rw [Int.neg_tmod] at this
    omega
  obtain ⟨r, hr⟩ : ∃ r, n.tmod ((q : Int) + 1) = r := ⟨_, rfl⟩
  rw [hr] at h1 h2
  have h3 : 0 ≤ (r + q + 1) % ((q : Int) + 1) := Int.emod_nonneg _ (by omega)
  have h4 : (r + q + 1) % ((q : Int) + 1) < (q : Int) + 1 := Int.emod_lt_of_pos _ (by omega)
  obtain ⟨k, hk⟩ := Int.eq_ofNat_of_zero_le h3
  refine ⟨r, k, hr, by omega, by omega, hk, ?_, by omega⟩
  rw [Int.tmod_eq_emod_of_nonneg (by omega)]
  exact hk

/-- What the law asks of the key of the first k values. -/
theorem begins_facts (M : List ValV) (k : Nat) (h : keyE M = 0) : keyE (M.take k) = 0 ∧ ((((⟨(keyB (M.take k)).toArray⟩ : ByteArray).size : Int) ≤ ((⟨(keyB M).toArray⟩ : ByteArray).size : Int)) ∧ (⟨(keyB M).toArray⟩ : ByteArray).extract 0 (⟨(keyB (M.take k)).toArray⟩ : ByteArray).size = ⟨(keyB (M.take k)).toArray⟩ ∧
    Go.Op.bytesLess (⟨(keyB M).toArray⟩ : ByteArray).toList (⟨(keyB (M.take k)).toArray⟩ : ByteArray).toList = false ∧ Go.Op.bytesLess (⟨(keyB M).toArray⟩ : ByteArray).toList ((⟨(keyB (M.take k)).toArray⟩ : ByteArray) ++ ⟨#[255]⟩).toList = true ∧ (⟨(keyB (M.take k)).toArray⟩ : ByteArray).size ≤ 64) := by
  obtain ⟨hm, hl⟩ := keyE_may h
  have hsplit : keysL M = keysL (M.take k) ++ keysL (M.drop k) := by rw [← keysL_append, List.take_append_drop]
  have hl2 : (keysL (M.take k)).length ≤ (keysL M).length := by rw [hsplit, List.length_append]; omega
  have hE : keyE (M.take k) = 0 := keyE_ok (List.all_eq_true.2 fun v hv => hm v (List.mem_of_mem_take hv)) (by omega)
  have hb := keysL_begins (M.take k) (M.drop k) (fun v hv => hm v (List.mem_of_mem_drop hv))
  rw [List.take_append_drop] at hb
  refine ⟨hE, ?_⟩
  rw [keyB_ok h, keyB_ok hE, bytes_size, bytes_size]
  refine ⟨by omega, ?_, ?_, ?_, by omega⟩
  · apply ByteArray.ext
    rw [hsplit]
    simp
  · simp only [ByteArray.toList_eq]
    exact hb.1
  · rw [show (⟨#[255]⟩ : ByteArray) = ⟨([255] : List UInt8).toArray⟩ from rfl, kba_append]
    simp only [ByteArray.toList_eq]
    exact hb.2

set_option maxHeartbeats 3200000 in
theorem begins_walk (a : Option Addr) (len cap : Nat) (L : List ValV) (n m : Int) (w : World) (hlen : len = L.length) (hcap : len ≤ cap) (hL : ValsAt w a L) (hl : L.length * 32 ≤ 140737488351232) (hI : ∀ v ∈ L, v.In ∧ v.S.size ≤ 140737488351232) (hn0 : -9223372036854775808 ≤ n) (hn1 : n ≤ 9223372036854775807)
    (hmx : w.cell? maxLenAt = some (.int .i64 m)) :
    Calls Tryd.prog 5 #[.slice a len cap, .int .i64 n] w fun e w' => e = .returned (.bool true) ∧ Below w.heap.size w w' := by
  subst hlen
  go_enter Tryd.func5, Tryd.ntmps5
  by_cases h4 : 4 < L.length
  · have h4i : (4 : Int) < (L.length : Int) := by omega
    obtain ⟨b, o, rfl, hb, _⟩ : ∃ b o, a = some ⟨b, o, none⟩ ∧ b < w.heap.size ∧ True := by
      rcases hL with h | ⟨b, o, e, hb, _⟩
      · rw [h] at h4; simp at h4
      · exact ⟨b, o, e, hb, trivial⟩
    have hc4 : (4 : Int) ≤ (cap : Int) := by omega
    have hMq : (L.take 4).length = 4 := by rw [List.length_take]; omega
    have hVM := hL.take 4
    have hSM : ∀ v ∈ L.take 4, v.S.size ≤ 9223372036854775807 := fun v hv => by have := (hI v (List.mem_of_mem_take hv)).2; omega
    have HK : Hid (∀ (w1 : World), w1.cell? maxLenAt = some (.int .i64 m) → ValsAt w1 (some ⟨b, o, none⟩) (L.take 4) → Calls Tryd.prog 6 #[.slice (some ⟨b, o, none⟩) 4 cap] w1 fun e w' => e = .returned (.tuple #[.string ⟨(keyB (L.take 4)).toArray⟩, .int .i64 (keyE (L.take 4))]) ∧ Below w1.heap.size w1 w') := fun w1 h1 h2 => by
      have := key_any (some ⟨b, o, none⟩) cap (L.take 4) m w1 h1 h2 (by omega) hSM
      rw [hMq] at this
      exact this
    have HKk : Hid (∀ (k : Nat) (w1 : World), k ≤ 4 → w1.cell? maxLenAt = some (.int .i64 m) → ValsAt w1 (some ⟨b, o, none⟩) (L.take 4) → Calls Tryd.prog 6 #[.slice (some ⟨b, o, none⟩) k cap] w1 fun e w' => e = .returned (.tuple #[.string ⟨(keyB ((L.take 4).take k)).toArray⟩, .int .i64 (keyE ((L.take 4).take k))]) ∧ Below w1.heap.size w1 w') := fun k w1 hk h1 h2 => by
      have hkl : ((L.take 4).take k).length = k := by rw [List.length_take]; omega
      have := key_any (some ⟨b, o, none⟩) cap ((L.take 4).take k) m w1 h1 (h2.take k) (by omega) (fun v hv => hSM v (List.mem_of_mem_take hv))
      rw [hkl] at this
      exact this
    have HVM := hidk hVM
    have HMX := hidk hmx
    have hmb : maxLenAt.block < w.heap.size := World.block_lt_of_cell? _ _ hmx
    clear hVM hmx hL hI
    go_wp2_with fail
    refine (HK.out _ HMX.out HVM.out).mono ?_
    rintro e w1 ⟨rfl, b1⟩
    have HB1 := hidk b1
    go_wp2_with fail
    refine (kawake_any _).mono ?_
    rintro e w2 ⟨rfl, b2⟩
    have HB2 := hidk (below_chain HB1.out b2)
    clear HB1 HK b1 b2
    by_cases hE : keyE (L.take 4) = 0
    rotate_left
    · have hE' : (keyE (L.take 4) != 0) = true := by rw [bne_iff_ne]; exact hE
      go_wp2_with fail
      refine (kawake_any _).mono ?_
      rintro e w3 ⟨rfl, b3⟩
      go_wp2
      go_ret
      exact ⟨rfl, below_chain HB2.out b3⟩
    obtain ⟨S, HS⟩ : ∃ S : ByteArray, Hid ((⟨(keyB (L.take 4)).toArray⟩ : ByteArray) = S) := ⟨_, rfl⟩
    rw [HS.out, hE]
    have HE := hidk hE
    clear hE
    obtain ⟨r, k, hr, hr0, hr1, hk1, hk2, hkq⟩ := mod_pick n 4
    rw [show ((4 : Nat) : Int) + 1 = 5 from rfl] at hr hk1 hk2
    rw [show ((4 : Nat) : Int) = 4 from rfl] at hr0 hr1 hk1 hk2
    have hkc : (k : Int) ≤ (cap : Int) := by omega
    have HT := hidk (begins_facts (L.take 4) k HE.out)
    have HK2 := hidk (HKk.out k w2 hkq ((HB2.out.cell (p := maxLenAt) hmb).trans HMX.out) (HVM.out.below HB2.out))
    obtain ⟨T, HTT⟩ : ∃ T : ByteArray, Hid ((⟨(keyB ((L.take 4).take k)).toArray⟩ : ByteArray) = T) := ⟨_, rfl⟩
    rw [HTT.out, HT.out.1] at HK2
    have HT2 := hidk HT.out.2
    rw [HTT.out, HS.out] at HT2
    clear HT HTT HS HE HKk HVM HMX
    obtain ⟨z1, z2, z3, z4, z5⟩ := HT2.out
    clear HT2
    go_wp2_with fail
    refine HK2.out.mono ?_
    rintro e w3 ⟨rfl, b3⟩
    go_wp2
    go_ret
    exact ⟨rfl, below_chain HB2.out b3⟩
  · have h4i : ¬ (4 : Int) < (L.length : Int) := by omega
    have hMq : L.length = L.length := rfl
    have hVM := hL
    have hSM : ∀ v ∈ L, v.S.size ≤ 9223372036854775807 := fun v hv => by have := (hI v hv).2; omega
    have HK : Hid (∀ (w1 : World), w1.cell? maxLenAt = some (.int .i64 m) → ValsAt w1 a L → Calls Tryd.prog 6 #[.slice a L.length cap] w1 fun e w' => e = .returned (.tuple #[.string ⟨(keyB L).toArray⟩, .int .i64 (keyE L)]) ∧ Below w1.heap.size w1 w') := fun w1 h1 h2 => by
      have := key_any a cap L m w1 h1 h2 (by omega) hSM
      rw [hMq] at this
      exact this
    have HKk : Hid (∀ (k : Nat) (w1 : World), k ≤ L.length → w1.cell? maxLenAt = some (.int .i64 m) → ValsAt w1 a L → Calls Tryd.prog 6 #[.slice a k cap] w1 fun e w' => e = .returned (.tuple #[.string ⟨(keyB (L.take k)).toArray⟩, .int .i64 (keyE (L.take k))]) ∧ Below w1.heap.size w1 w') := fun k w1 hk h1 h2 => by
      have hkl : (L.take k).length = k := by rw [List.length_take]; omega
      have := key_any a cap (L.take k) m w1 h1 (h2.take k) (by omega) (fun v hv => hSM v (List.mem_of_mem_take hv))
      rw [hkl] at this
      exact this
    have HVM := hidk hVM
    have HMX := hidk hmx
    have hmb : maxLenAt.block < w.heap.size := World.block_lt_of_cell? _ _ hmx
    clear hVM hmx hL hI
    go_wp2_with fail
    refine (HK.out _ HMX.out HVM.out).mono ?_
    rintro e w1 ⟨rfl, b1⟩
    have HB1 := hidk b1
    go_wp2_with fail
    refine (kawake_any _).mono ?_
    rintro e w2 ⟨rfl, b2⟩
    have HB2 := hidk (below_chain HB1.out b2)
    clear HB1 HK b1 b2
    by_cases hE : keyE L = 0
    rotate_left
    · have hE' : (keyE L != 0) = true := by rw [bne_iff_ne]; exact hE
      go_wp2_with fail
      refine (kawake_any _).mono ?_
      rintro e w3 ⟨rfl, b3⟩
      go_wp2
      go_ret
      exact ⟨rfl, below_chain HB2.out b3⟩
    obtain ⟨S, HS⟩ : ∃ S : ByteArray, Hid ((⟨(keyB L).toArray⟩ : ByteArray) = S) := ⟨_, rfl⟩
    rw [HS.out, hE]
    have HE := hidk hE
    clear hE
    by_cases h0 : L.length = 0
    · have h0i : ¬ (0 : Int) < (L.length : Int) := by omega
      have hkq : 0 ≤ L.length := Nat.zero_le _
      have hc0 : (0 : Int) ≤ (cap : Int) := by omega
      cases a with
      | none =>
        have HT := hidk (begins_facts L 0 HE.out)
        have HK2 := hidk (HKk.out 0 w2 hkq ((HB2.out.cell (p := maxLenAt) hmb).trans HMX.out) (HVM.out.below HB2.out))
        obtain ⟨T, HTT⟩ : ∃ T : ByteArray, Hid ((⟨(keyB (L.take 0)).toArray⟩ : ByteArray) = T) := ⟨_, rfl⟩
        rw [HTT.out, HT.out.1] at HK2
        have HT2 := hidk HT.out.2
        rw [HTT.out, HS.out] at HT2
        clear HT HTT HS HE HKk HVM HMX
        obtain ⟨z1, z2, z3, z4, z5⟩ := HT2.out
        clear HT2
        go_wp2_with fail
        refine HK2.out.mono ?_
        rintro e w3 ⟨rfl, b3⟩
        go_wp2
        go_ret
        exact ⟨rfl, below_chain HB2.out b3⟩
      | some ad =>
        have HT := hidk (begins_facts L 0 HE.out)
        have HK2 := hidk (HKk.out 0 w2 hkq ((HB2.out.cell (p := maxLenAt) hmb).trans HMX.out) (HVM.out.below HB2.out))
        obtain ⟨T, HTT⟩ : ∃ T : ByteArray, Hid ((⟨(keyB (L.take 0)).toArray⟩ : ByteArray) = T) := ⟨_, rfl⟩
        rw [HTT.out, HT.out.1] at HK2
        have HT2 := hidk HT.out.2
        rw [HTT.out, HS.out] at HT2
        clear HT HTT HS HE HKk HVM HMX
        obtain ⟨z1, z2, z3, z4, z5⟩ := HT2.out
        clear HT2
        go_wp2_with fail
        refine HK2.out.mono ?_
        rintro e w3 ⟨rfl, b3⟩
        go_wp2
        go_ret
        exact ⟨rfl, below_chain HB2.out b3⟩
    · have h0i : (0 : Int) < (L.length : Int) := by omega
      obtain ⟨b, o, rfl⟩ : ∃ b o, a = some ⟨b, o, none⟩ := by
        rcases HVM.out with h | ⟨b, o, e, hb, _⟩
        · rw [h] at h0; simp at h0
        · exact ⟨b, o, e⟩
      obtain ⟨r, k, hr, hr0, hr1, hk1, hk2, hkq⟩ := mod_pick n L.length
      have hkc : (k : Int) ≤ (cap : Int) := by omega
      have HT := hidk (begins_facts L k HE.out)
      have HK2 := hidk (HKk.out k w2 hkq ((HB2.out.cell (p := maxLenAt) hmb).trans HMX.out) (HVM.out.below HB2.out))
      obtain ⟨T, HTT⟩ : ∃ T : ByteArray, Hid ((⟨(keyB (L.take k)).toArray⟩ : ByteArray) = T) := ⟨_, rfl⟩
      rw [HTT.out, HT.out.1] at HK2
      have HT2 := hidk HT.out.2
      rw [HTT.out, HS.out] at HT2
      clear HT HTT HS HE HKk HVM HMX
      obtain ⟨z1, z2, z3, z4, z5⟩ := HT2.out
      clear HT2
      go_wp2_with fail
      refine HK2.out.mono ?_
      rintro e w3 ⟨rfl, b3⟩
      go_wp2
      go_ret
      exact ⟨rfl, below_chain HB2.out b3⟩

end Go.Proofs.YtgammhmgdafpkaaDoor

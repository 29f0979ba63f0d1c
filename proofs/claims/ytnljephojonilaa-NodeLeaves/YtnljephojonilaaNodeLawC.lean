/-
  The walks of girderlaw12's own functions: entry, before, slot; node.Down.
-/
import Derived.Test.YtnljephojonilaaNodeFindC
import Derived.Deep.RegionHeld3
import Derived.Deep.QuietTactic
import Derived.BigQuiet
import Derived.Test.YtnljephojonilaaWriterSafeC
import Derived.Lib.QuietBelow
namespace Go.Proofs.Ytnljephojonilaa
open Go.RowKit Go.Sort
set_option linter.unusedVariables false
set_option linter.unusedSimpArgs false

theorem nmixed : Try.prog.follows .mixedOrders = true := by kernel_rfl

theorem and_mask (x : Int) (k : Nat) (hk : k ≤ 62) : bits .and .i64 x ((2 ^ k - 1 : Nat) : Int) = x % ((2 ^ k : Nat) : Int) := by
  have hp : (2 : Nat) ^ k ≤ 2 ^ 62 := Nat.pow_le_pow_right (by omega) hk
  have hp1 : 1 ≤ (2 : Nat) ^ k := Nat.one_le_two_pow
  have hpos : (0 : Int) < ((2 ^ k : Nat) : Int) := by omega
  show IntKind.i64.wrap ((BitVec.ofInt 64 x &&& BitVec.ofInt 64 ((2 ^ k - 1 : Nat) : Int)).toNat : Int) = _
  rw [BitVec.toNat_and, BitVec.toNat_ofInt, BitVec.toNat_ofInt]
  have e1 : (((2 ^ k - 1 : Nat) : Int) % ((2 ^ 64 : Nat) : Int)).toNat = 2 ^ k - 1 := by
    rw [Int.emod_eq_of_lt (by omega) (by have : (2 : Nat) ^ 62 < 2 ^ 64 := by decide
                                         omega)]
    omega
  rw [e1, Nat.and_two_pow_sub_one_eq_mod]
  have hm : ((x % ((2 ^ 64 : Nat) : Int)).toNat % 2 ^ k : Nat) < 2 ^ k := Nat.mod_lt _ (by omega)
  have hcast : (((x % ((2 ^ 64 : Nat) : Int)).toNat % 2 ^ k : Nat) : Int) = x % ((2 ^ k : Nat) : Int) := by
    have h0 : 0 ≤ x % ((2 ^ 64 : Nat) : Int) := Int.emod_nonneg _ (by decide)
    rw [Int.natCast_emod, Int.toNat_of_nonneg h0]
    have hd : ((2 ^ k : Nat) : Int) ∣ ((2 ^ 64 : Nat) : Int) := by
      refine ⟨((2 ^ (64 - k) : Nat) : Int), ?_⟩
      rw [← Int.natCast_mul, ← Nat.pow_add]
      congr 2; omega
    exact Int.emod_emod_of_dvd x hd
  rw [hcast]
  have h1 := Int.emod_nonneg x (show ((2 ^ k : Nat) : Int) ≠ 0 by omega)
  have h2 := Int.emod_lt_of_pos x hpos
  have h3 : ((2 ^ k : Nat) : Int) ≤ 4611686018427387904 := by have : (2 : Nat) ^ 62 = 4611686018427387904 := by decide
                                                              omega
  rw [IntKind.wrap_i64]; omega

theorem and16 (x : Int) : bits .and .i64 x 65535 = x % 65536 := and_mask x 16 (by omega)
theorem and12 (x : Int) : bits .and .i64 x 4095 = x % 4096 := and_mask x 12 (by omega)
theorem and4 (x : Int) : bits .and .i64 x 15 = x % 16 := and_mask x 4 (by omega)

/-- A key of at most n bytes. -/
def cutKey (n : Nat) (k : ByteArray) : ByteArray := if n < k.size then k.extract 0 n else k
def EntV.cut (n : Nat) (e : EntV) : EntV := ⟨cutKey n e.key, e.page, e.slot % 65536⟩

theorem cutKey_size (n : Nat) (k : ByteArray) : (cutKey n k).size ≤ n := by
  unfold cutKey
  split
  · rw [ByteArray.size_extract]; omega
  · omega

theorem EntV.cut_may (n : Nat) {e : EntV} (h : e.page < 4294967296) : (e.cut n).May := by
  refine ⟨h, ?_, ?_⟩
  · show 0 ≤ e.slot % 65536; omega
  · show e.slot % 65536 ≤ 65535; omega

set_option maxHeartbeats 1600000 in
set_option maxRecDepth 60000 in
theorem entry_any (e : EntV) (w : World) (hk : e.key.size ≤ 140737488351232) :
    Calls Try.prog 13 #[e.val] w fun r w' => r = .returned (e.cut 12).val ∧ Below w.heap.size w w' := by
  have hm := and16 e.slot
  obtain ⟨K, P, S⟩ := e
  simp only [EntV.val, EntV.cut, cutKey] at *
  have bW : Below w.heap.size w ((w.alloc (.cells #[.string K, .int .u32 P, .int .i64 S] 43)).alloc (.cells #[.string ⟨#[]⟩, .int .u32 0, .int .i64 0] 43)) := ((Below.refl _ _).alloc (Nat.le_refl _) _).alloc (by simp) _
  by_cases h : 12 < K.size
  · rw [if_pos h]
    have h' : (12 : Int) < (K.size : Int) := by omega
    have h'' : (12 : Int) ≤ (K.size : Int) := by omega
    go_enter Try.func13, Try.ntmps13
    go_wp2
    refine bodyPost_ret (v := .agg #[.string (K.extract 0 12), .int .u32 P, .int .i64 (S % 65536)]) (by simp [results, Try.results13, go_sem]) rfl ⟨rfl, ?_⟩
    exact ((Below.refl _ _).alloc (Nat.le_refl _) _).alloc (by simp) _
  · rw [if_neg h]
    have h' : ¬ (12 : Int) < (K.size : Int) := by omega
    go_enter Try.func13, Try.ntmps13
    go_wp2
    refine bodyPost_ret (v := .agg #[.string K, .int .u32 P, .int .i64 (S % 65536)]) (by simp [results, Try.results13, go_sem]) rfl ⟨rfl, ?_⟩
    exact ((Below.refl _ _).alloc (Nat.le_refl _) _).alloc (by simp) _

/-- Does an entry stand ahead of another one? -/
def ltE (a b : EntV) : Bool := if a.key.toList = b.key.toList then (if (a.page : Int) = b.page then decide (a.slot < b.slot) else decide ((a.page : Int) < b.page)) else Go.Op.bytesLess a.key.toList b.key.toList

set_option maxHeartbeats 1600000 in
set_option maxRecDepth 60000 in
theorem before_any (a b : EntV) (w : World) : Calls Try.prog 14 #[a.val, b.val] w fun r w' => r = .returned (.bool (ltE a b)) ∧ Below w.heap.size w w' := by
  unfold ltE
  simp only [EntV.val]
  have bW : Below w.heap.size w ((w.alloc (.cells #[.string a.key, .int .u32 a.page, .int .i64 a.slot] 43)).alloc (.cells #[.string b.key, .int .u32 b.page, .int .i64 b.slot] 43)) := ((Below.refl _ _).alloc (Nat.le_refl _) _).alloc (by simp) _
  by_cases h1 : a.key.toList = b.key.toList
  · have e1 : (a.key.toList == b.key.toList) = true := by rw [beq_iff_eq]; exact h1
    rw [if_pos h1]
    by_cases h2 : (a.page : Int) = b.page
    · have e2 : ((a.page : Int) == b.page) = true := by rw [beq_iff_eq]; exact h2
      rw [if_pos h2]
      clear h1 h2
      go_enter Try.func14, Try.ntmps14
      go_wp2
      go_ret
      exact ⟨rfl, bW⟩
    · have e2 : ((a.page : Int) == b.page) = false := by rw [beq_eq_false_iff_ne]; exact h2
      rw [if_neg h2]
      clear h1 h2
      go_enter Try.func14, Try.ntmps14
      go_wp2
      go_ret
      exact ⟨nret_bool (by first | rfl | simp), bW⟩
  · have e1 : (a.key.toList == b.key.toList) = false := by rw [beq_eq_false_iff_ne]; exact h1
    rw [if_neg h1]
    clear h1
    go_enter Try.func14, Try.ntmps14
    go_wp2
    go_ret
    exact ⟨rfl, bW⟩

/-- The order of entries, by the three comparisons. -/
theorem gtE_iff (a b : EntV) : gtE a b = ltE b a := by
  unfold gtE ltE cmpE or3 scmpF kcmpF
  by_cases hk : a.key = b.key
  · have hi : Go.Op.bytesLess a.key.toList b.key.toList = false := by rw [hk, ByteArray.toList_eq]; exact bless_irrefl _
    rw [hi, hk]
    simp only [if_true, Bool.false_eq_true, if_false]
    by_cases hp : a.page = b.page
    · rw [hp]
      simp only [if_true, Int.lt_irrefl, if_false]
      by_cases h1 : a.slot < b.slot
      · rw [if_pos h1]; simp; omega
      · rw [if_neg h1]
        by_cases h2 : b.slot < a.slot
        · rw [if_pos h2]; simp [h2]
        · rw [if_neg h2]; simp [h2]
    · have hp' : ¬ (b.page : Int) = a.page := by omega
      rw [if_neg hp']
      by_cases h1 : (a.page : Int) < b.page
      · rw [if_pos h1]; simp; omega
      · rw [if_neg h1, if_pos (show (b.page : Int) < a.page by omega)]; simp; omega
  · have hk' : ¬ b.key.toList = a.key.toList := fun h => by
      rw [ByteArray.toList_eq, ByteArray.toList_eq] at h
      exact hk (Go.WideShapes.bytes_inj h).symm
    rw [if_neg hk', if_neg hk]
    by_cases h1 : Go.Op.bytesLess a.key.toList b.key.toList = true
    · have h2 : Go.Op.bytesLess b.key.toList a.key.toList = false := by
        rw [ByteArray.toList_eq, ByteArray.toList_eq] at h1 ⊢; exact (bless_asymm h1).1
      rw [if_pos h1, h2]; simp
    · have h2 : Go.Op.bytesLess b.key.toList a.key.toList = true := by
        rw [ByteArray.toList_eq, ByteArray.toList_eq] at h1 hk' ⊢
        rcases bless_total a.key.data.toList b.key.data.toList with h | h | h
        · exact absurd h h1
        · exact absurd h.symm hk'
        · exact h
      rw [if_neg h1, h2]; simp

set_option maxHeartbeats 3200000 in
set_option maxRecDepth 20000 in
theorem slot_any (e : EntV) (w : World) (hp : e.page < 4294967296) (hk : e.key.size ≤ 140737488351232) :
    Calls Try.prog 25 #[e.val] w fun r w' => r = .returned (.string ⟨e.bytes.toArray⟩) ∧ Below w.heap.size w w' := by
  have q1 : IntKind.u64.wrap (e.page : Int) = (e.page : Int) := by rw [IntKind.wrap_u64]; omega
  have q2 := toU_wrap e.slot
  have hu := u64_lt e.slot
  have HB : Hid ((⟨e.bytes.toArray⟩ : ByteArray) = ⟨(putL e.page (longOf 4)).toArray⟩ ++ ⟨(putL (toU e.slot) (longOf 2)).toArray⟩ ++ e.key) := by
    show _ = _
    unfold EntV.bytes
    have hs : ∀ l : List UInt8, (ByteArray.mk l.toArray) ++ e.key = ByteArray.mk (l ++ e.key.data.toList).toArray := fun l => by
      have := bytes_add l e.key.data.toList
      rw [bytes_self] at this
      exact this
    rw [show longOf 4 = 4 from by decide, show longOf 2 = 2 from by decide, bytes_add (putL e.page 4) (putL (toU e.slot) 2), hs]
    simp [List.append_assoc]
  rw [HB.out]
  clear HB
  have HP1 : Hid (∀ wx, Calls Try.prog 24 #[.int .u64 e.page, .int .i64 4] wx fun r w' => r = .returned (.string ⟨(putL e.page (longOf 4)).toArray⟩) ∧ Below wx.heap.size wx w') := fun wx => rput_any e.page 4 wx (by omega)
  have HP2 : Hid (∀ wx, Calls Try.prog 24 #[.int .u64 (toU e.slot), .int .i64 2] wx fun r w' => r = .returned (.string ⟨(putL (toU e.slot) (longOf 2)).toArray⟩) ∧ Below wx.heap.size wx w') := fun wx => rput_any (toU e.slot) 2 wx (by omega)
  generalize toU e.slot = U at *
  have z1 : (ByteArray.mk (putL e.page (longOf 4)).toArray).size = 4 := by rw [bytes_size, putL_length]; decide
  have z2 : (ByteArray.mk (putL U (longOf 2)).toArray).size = 2 := by rw [bytes_size, putL_length]; decide
  generalize (ByteArray.mk (putL e.page (longOf 4)).toArray) = B1 at *
  generalize (ByteArray.mk (putL U (longOf 2)).toArray) = B2 at *
  have n1 : ¬ (9223372036854775807 < B1.size + B2.size) := by omega
  have n2 : ¬ (9223372036854775807 < B1.size + B2.size + e.key.size) := by omega
  have n3 : ¬ (9223372036854775807 < 4 + 2 + e.key.size) := by omega
  have n4 : ¬ (9223372036854775807 < 6 + e.key.size) := by omega
  have n5 : ¬ (9223372036854775807 < (B1 ++ B2).size + e.key.size) := by rw [ByteArray.size_append]; omega
  obtain ⟨W, HW⟩ : ∃ W, Hid (W = w.alloc (.cells #[.string e.key, .int .u32 e.page, .int .i64 e.slot] 43)) := ⟨_, rfl⟩
  have eW : EBox W w.heap.size e := by rw [HW.out]; exact EBox.new _ _
  have bW : Below w.heap.size w W := by rw [HW.out]; exact (Below.refl _ _).alloc (Nat.le_refl _) _
  obtain ⟨c0, c1, c2, hlt⟩ := eW
  have eW' : EBox W w.heap.size e := ⟨c0, c1, c2, hlt⟩
  simp only [EntV.val]
  go_enter Try.func25, Try.ntmps25
  go_wp2_with fail
  rw [← HW.out]
  clear HW
  have gx0 := cell_regrown c0
  have gx1 := cell_regrown c1
  have gx2 := cell_regrown c2
  have cP1 : ∀ dd os, Calls Try.prog 24 #[.int .u64 e.page, .int .i64 4] (grow (redrawn W dd) os) fun r w'' => r = .returned (.string B1) ∧ ∃ p : Regrown, w'' = grow (redrawn W p.d) p.os := fun dd os => Calls.regrown_of (HP1.out _)
  have cP2 : ∀ dd os, Calls Try.prog 24 #[.int .u64 U, .int .i64 2] (grow (redrawn W dd) os) fun r w'' => r = .returned (.string B2) ∧ ∃ p : Regrown, w'' = grow (redrawn W p.d) p.os := fun dd os => Calls.regrown_of (HP2.out _)
  clear c0 c1 c2 eW' HP1 HP2
  refine wp_region_quiet_below nmixed (by kernel_rfl) ?_
  iterate 5 (quiet_step (first | (go_at_call 24; exact cP1 _ _)))
  iterate 10 (quiet_step (first | (go_at_call 24; exact cP2 _ _)))
  refine wpQuiet_nil ?_
  intro _ hw'
  obtain ⟨⟨dq, osq⟩, hw''⟩ := hw'
  subst hw''
  go_wp2
  go_ret
  exact ⟨rfl, below_chain bW (below_regrown W dq osq)⟩

/-- Where one goes down. -/
def DownIs (L : List ChildV) (e : EntV) (D : Nat) : Prop := (D = 0 ∨ ∃ h : D < L.length, gtE L[D].e e = false) ∧ ∀ j (h : j < L.length), D < j → gtE L[j].e e = true

theorem DownIs.unique {L : List ChildV} {e : EntV} {D D' : Nat} (h : DownIs L e D) (h' : DownIs L e D') : D = D' := by
  rcases Nat.lt_trichotomy D D' with q | q | q
  · rcases h'.1 with r | ⟨r, s⟩
    · omega
    · rw [h.2 D' r q] at s; exact absurd s (by simp)
  · exact q
  · rcases h.1 with r | ⟨r, s⟩
    · omega
    · rw [h'.2 D r q] at s; exact absurd s (by simp)

set_option maxHeartbeats 3200000 in
set_option maxRecDepth 60000 in
theorem down_any (a : Option Addr) (c : Nat) (L : List ChildV) (e : EntV) (w : World) (hm : ChildsAt w a L) (hl : L.length ≤ 9223372036854775807) :
    Calls Try.prog 28 #[.slice a L.length c, e.val] w fun r w' => (∃ D : Nat, r = .returned (.int .i64 D) ∧ DownIs L e D) ∧ Below w.heap.size w w' := by
  obtain ⟨W, HW⟩ : ∃ W, Hid (W = w.alloc (.cells #[.string e.key, .int .u32 e.page, .int .i64 e.slot] 43)) := ⟨_, rfl⟩
  have eW : EBox W w.heap.size e := by rw [HW.out]; exact EBox.new _ _
  have bW : Below w.heap.size w W := by rw [HW.out]; exact (Below.refl _ _).alloc (Nat.le_refl _) _
  simp only [EntV.val]
  go_enter Try.func28, Try.ntmps28
  go_wp2_with fail
  rw [← HW.out]
  clear HW
  go_loopw [5] (fun i wr => ∃ k : Int, -1 ≤ k ∧ k < (L.length : Int) ∧ i = .int .i64 k ∧ Hid (Below w.heap.size w wr) ∧ Hid (EBox wr w.heap.size e) ∧ Hid (∀ j (h : j < L.length), k < (j : Int) → gtE L[j].e e = true)) (fun i _ => (intOf i + 1).toNat)
  case atStart => exact ⟨(L.length : Int) - 1, by omega, by omega, rfl, bW, eW, fun j h q => by omega⟩
  case round =>
    obtain ⟨k, hk0, hk1, rfl, HB, HE, HN⟩ := hrel
    by_cases hlt : 0 < k
    · obtain ⟨n, rfl⟩ := Int.eq_ofNat_of_zero_le (show 0 ≤ k by omega)
      have hn : n < L.length := by omega
      obtain ⟨bb, o, rfl, hb, c0, c1, c2, c3⟩ := (hm.below HB.out).child hn
      have HC : Hid (∀ wx, Calls Try.prog 44 #[.agg #[.string L[n].e.key, .int .u32 L[n].e.page, .int .i64 L[n].e.slot], .agg #[.string e.key, .int .u32 e.page, .int .i64 e.slot]] wx fun r w' => r = .returned (.int .i64 (cmpE L[n].e e)) ∧ Below wx.heap.size wx w') := fun wx => entries_any _ _ _ _ _ _ wx
      have HG : Hid (gtE L[n].e e = decide (0 < cmpE L[n].e e)) := rfl
      have HNN : Hid (gtE L[n].e e = true → ∀ j (h : j < L.length), ((n : Int) - 1) < (j : Int) → gtE L[j].e e = true) := fun hg j h q => by
        by_cases e1 : j = n
        · subst e1; exact hg
        · exact HN.out j h (by omega)
      have HDD : Hid (gtE L[n].e e = false → DownIs L e n) := fun hg => ⟨.inr ⟨hn, hg⟩, fun j h q => HN.out j h (by omega)⟩
      generalize gtE L[n].e e = G at *
      generalize cmpE L[n].e e = C at *
      generalize L[n] = x at *
      obtain ⟨d0, d1, d2, dl⟩ := HE.out
      have HE' : EBox wr w.heap.size e := ⟨d0, d1, d2, dl⟩
      have hi0 : (0 : Int) ≤ (n : Int) := by omega
      have hi1 : (n : Int) < (L.length : Int) := by omega
      have hgt : decide ((0 : Int) < (n : Int)) = true := by rw [decide_eq_true_eq]; exact hlt
      have hgtN : decide (0 < n) = true := by rw [decide_eq_true_eq]; omega
      have hltN : 0 < n := by omega
      go_upto_region 2 with fail
      go_cut [20] from 9 to 19 (fun v wx => v = .bool (decide (0 < C)) ∧ Hid (Below wr.heap.size wr wx))
      case first =>
        go_region_held3 (fun wy => (wy.cell? ⟨bb, o + n * 4 + 1, none⟩ = some (.string x.e.key) ∧ wy.cell? ⟨bb, o + n * 4 + 2, none⟩ = some (.int .u32 x.e.page) ∧ wy.cell? ⟨bb, o + n * 4 + 3, none⟩ = some (.int .i64 x.e.slot)) ∧ (wy.cell? ⟨w.heap.size, 0, none⟩ = some (.string e.key) ∧ wy.cell? ⟨w.heap.size, 1, none⟩ = some (.int .u32 e.page) ∧ wy.cell? ⟨w.heap.size, 2, none⟩ = some (.int .i64 e.slot)))
          (first | (go_keep; done) | exact s1)
          (first
            | (go_at_call 44; refine (HC.out _).mono ?_; rintro x1 w1 ⟨rfl, b1⟩
               have b1' : Below wr.heap.size wr w1 := ⟨b1.os, b1.tape, b1.output, b1.size, b1.block⟩
               have e1 := HE'.below b1' dl
               have s1 := And.intro (And.intro ((b1'.cell (p := ⟨bb, o + n * 4 + 1, none⟩) hb).trans c1) (And.intro ((b1'.cell (p := ⟨bb, o + n * 4 + 2, none⟩) hb).trans c2) ((b1'.cell (p := ⟨bb, o + n * 4 + 3, none⟩) hb).trans c3))) (And.intro e1.c0 (And.intro e1.c1 e1.c2))
               have bb1 := hidn b1'))
        go_wp2
        go_meet
        case rel => exact ⟨rfl, bb1⟩
      obtain ⟨rfl, HBw⟩ := hcut
      by_cases hg : 0 < C
      · have hG := hidn (HNN.out (by rw [HG.out]; exact decide_eq_true hg))
        go_wp2
        go_roundw
        case rel => exact ⟨(n : Int) - 1, by omega, by omega, by go_num, below_chain HB.out HBw.out, HE'.below HBw.out dl, hG.out⟩
        case measure => first | (simp [intOf]; done) | (simp [intOf]; omega)
      · have hG := hidn (HDD.out (by rw [HG.out]; exact decide_eq_false hg))
        go_wp2
        go_ret
        exact ⟨⟨n, nret_int (by omega), hG.out⟩, below_chain HB.out HBw.out⟩
    · have hgt : decide ((0 : Int) < k) = false := by rw [decide_eq_false_iff_not]; exact hlt
      have hD := hidn (show DownIs L e 0 from ⟨.inl rfl, fun j h q => HN.out j h (by omega)⟩)
      go_upto_region 2 with fail
      go_quiet (fail)
      go_wp2
      go_ret
      exact ⟨⟨0, nret_int (by omega), hD.out⟩, below_drewN HB.out _⟩

end Go.Proofs.Ytnljephojonilaa

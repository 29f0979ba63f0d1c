/-
  The walks of girderlaw12's own functions: entry, before, slot; node.Down.
-/
import Derived.Test.YtpllidadpcahbaaGreatNodeFindC
import Derived.Deep.RegionHeld3
import Derived.Deep.QuietTactic
import Derived.BigQuiet
import Derived.Test.YtpllidadpcahbaaGreatWriterSafeC
import Derived.Lib.QuietBelow
namespace Go.Proofs.YtpllidadpcahbaaGreat
open Go.RowKit Go.Sort
set_option linter.unusedVariables false
set_option linter.unusedSimpArgs false

theorem nmixed : Tryz.prog.follows .mixedOrders = true := by kernel_rfl

theorem and_mask (x : Int) (k : Nat) (hk : k ≤ 62) : bits .and .i64 x ((2 ^ k - 1 : Nat) : Int) = x % ((2 ^ k : Nat) : Int) := by
  have hp : (2 : Nat) ^ k ≤ 2 ^ 62 := Nat.pow_le_pow_right (by omega) hk
  have hp1 : 1 ≤ (2 : Nat) ^ k := Nat.one_le_two_pow
  have hpos : (0 : Int) < ((2 ^ k : Nat) : Int) := by omega
  show IntKind.i64.wrap ((BitVec.ofInt 64 x &&& BitVec.ofInt 64 ((2 ^ k - 1 : Nat) : Int)).toNat : Int) = _
  rw [BitVec.toNat_and, BitVec.toNat_ofInt, BitVec.toNat_ofInt]
  have e1 : (((2 ^ k - 1 : Nat) : Int) % ((2 ^ 64 : Nat) : Int)).toNat = 2 ^ k - 1 := by
    rw [Int.emod_eq_of_lt (by omega) (by have : (2 : Nat) ^ 62 < 2 ^ 64 := by decide
                                         omega)]
    omega
  rw [e1, Nat.and_two_pow_sub_one_eq_mod]
  have hm : ((x % ((2 ^ 64 : Nat) : Int)).toNat % 2 ^ k : Nat) < 2 ^ k := Nat.mod_lt _ (by omega)
  have hcast : (((x % ((2 ^ 64 : Nat) : Int)).toNat % 2 ^ k : Nat) : Int) = x % ((2 ^ k : Nat) : Int) := by
    have h0 : 0 ≤ x % ((2 ^ 64 : Nat) : Int) := Int.emod_nonneg _ (by decide)
    rw [Int.natCast_emod, Int.toNat_of_nonneg h0]
    have hd : ((2 ^ k : Nat) : Int) ∣ ((2 ^ 64 : Nat) : Int) := by
      refine ⟨((2 ^ (64 - k) : Nat) : Int), ?_⟩
      rw [← Int.natCast_mul, ← Nat.pow_add]
      congr 2; omega
    exact Int.emod_emod_of_dvd x hd
  rw [hcast]
  have h1 := Int.emod_nonneg x (show ((2 ^ k : Nat) : Int) ≠ 0 by omega)
  have h2 := Int.emod_lt_of_pos x hpos
  have h3 : ((2 ^ k : Nat) : Int) ≤ 4611686018427387904 := by have : (2 : Nat) ^ 62 = 4611686018427387904 := by decide
                                                              omega
  rw [IntKind.wrap_i64]; omega

theorem and16 (x : Int) : bits .and .i64 x 65535 = x % 65536 := and_mask x 16 (by omega)
theorem and12 (x : Int) : bits .and .i64 x 4095 = x % 4096 := and_mask x 12 (by omega)
theorem and4 (x : Int) : bits .and .i64 x 15 = x % 16 := and_mask x 4 (by omega)

/-- A key of at most n bytes. -/
def cutKey (n : Nat) (k : ByteArray) : ByteArray := if n < k.size then k.extract 0 n else k
def EntV.cut (n : Nat) (e : EntV) : EntV := ⟨cutKey n e.key, e.page, e.slot % 65536⟩

theorem cutKey_size (n : Nat) (k : ByteArray) : (cutKey n k).size ≤ n := by
  unfold cutKey
  split
  · rw [ByteArray.size_extract]; omega
  · omega

theorem EntV.cut_may (n : Nat) {e : EntV} (h : e.page < 4294967296) : (e.cut n).May := by
  refine ⟨h, ?_, ?_⟩
  · show 0 ≤ e.slot % 65536; omega
  · show e.slot % 65536 ≤ 65535; omega

/-- Does an entry stand ahead of another one? -/
def ltE (a b : EntV) : Bool := if a.key.toList = b.key.toList then (if (a.page : Int) = b.page then decide (a.slot < b.slot) else decide ((a.page : Int) < b.page)) else Go.Op.bytesLess a.key.toList b.key.toList

/-- The order of entries, by the three comparisons. -/
theorem gtE_iff (a b : EntV) : gtE a b = ltE b a := by
  unfold gtE ltE cmpE or3 scmpF kcmpF
  by_cases hk : a.key = b.key
  · have hi : Go.Op.bytesLess a.key.toList b.key.toList = false := by rw [hk, ByteArray.toList_eq]; exact bless_irrefl _
    rw [hi, hk]
    simp only [if_true, Bool.false_eq_true, if_false]
    by_cases hp : a.page = b.page
    · rw [hp]
      simp only [if_true, Int.lt_irrefl, if_false]
      by_cases h1 : a.slot < b.slot
      · rw [if_pos h1]; simp; omega
      · rw [if_neg h1]
        by_cases h2 : b.slot < a.slot
        · rw [if_pos h2]; simp [h2]
        · rw [if_neg h2]; simp [h2]
    · have hp' : ¬ (b.page : Int) = a.page := by omega
      rw [if_neg hp']
      by_cases h1 : (a.page : Int) < b.page
      · rw [if_pos h1]; simp; omega
      · rw [if_neg h1, if_pos (show (b.page : Int) < a.page by omega)]; simp; omega
  · have hk' : ¬ b.key.toList = a.key.toList := fun h => by
      rw [ByteArray.toList_eq, ByteArray.toList_eq] at h
      exact hk (Go.WideShapes.bytes_inj h).symm
    rw [if_neg hk', if_neg hk]
    by_cases h1 : Go.Op.bytesLess a.key.toList b.key.toList = true
    · have h2 : Go.Op.bytesLess b.key.toList a.key.toList = false := by
        rw [ByteArray.toList_eq, ByteArray.toList_eq] at h1 ⊢; exact (bless_asymm h1).1
      rw [if_pos h1, h2]; simp
    · have h2 : Go.Op.bytesLess b.key.toList a.key.toList = true := by
        rw [ByteArray.toList_eq, ByteArray.toList_eq] at h1 hk' ⊢
        rcases bless_total a.key.data.toList b.key.data.toList with h | h | h
        · exact absurd h h1
        · exact absurd h.symm hk'
        · exact h
      rw [if_neg h1, h2]; simp

/-- Where one goes down. -/
def DownIs (L : List ChildV) (e : EntV) (D : Nat) : Prop := (D = 0 ∨ ∃ h : D < L.length, gtE L[D].e e = false) ∧ ∀ j (h : j < L.length), D < j → gtE L[j].e e = true

theorem DownIs.unique {L : List ChildV} {e : EntV} {D D' : Nat} (h : DownIs L e D) (h' : DownIs L e D') : D = D' := by
  rcases Nat.lt_trichotomy D D' with q | q | q
  · rcases h'.1 with r | ⟨r, s⟩
    · omega
    · rw [h.2 D' r q] at s; exact absurd s (by simp)
  · exact q
  · rcases h.1 with r | ⟨r, s⟩
    · omega
    · rw [h'.2 D r q] at s; exact absurd s (by simp)

set_option maxHeartbeats 3200000 in
set_option maxRecDepth 60000 in
theorem down_any (a : Option Addr) (c : Nat) (L : List ChildV) (e : EntV) (w : World) (hm : ChildsAt w a L) (hl : L.length ≤ 9223372036854775807) :
    Calls Tryz.prog 65 #[.slice a L.length c, e.val] w fun r w' => (∃ D : Nat, r = .returned (.int .i64 D) ∧ DownIs L e D) ∧ Below w.heap.size w w' := by
  obtain ⟨W, HW⟩ : ∃ W, Hid (W = w.alloc (.cells #[.string e.key, .int .u32 e.page, .int .i64 e.slot] 28)) := ⟨_, rfl⟩
  have eW : EBox W w.heap.size e := by rw [HW.out]; exact EBox.new _ _
  have bW : Below w.heap.size w W := by rw [HW.out]; exact (Below.refl _ _).alloc (Nat.le_refl _) _
  simp only [EntV.val]
  go_enter Tryz.func65, Tryz.ntmps65
  go_wp2_with fail
  rw [← HW.out]
  clear HW
  go_loopw [5] (fun i wr => ∃ k : Int, -1 ≤ k ∧ k < (L.length : Int) ∧ i = .int .i64 k ∧ Hid (Below w.heap.size w wr) ∧ Hid (EBox wr w.heap.size e) ∧ Hid (∀ j (h : j < L.length), k < (j : Int) → gtE L[j].e e = true)) (fun i _ => (intOf i + 1).toNat)
  case atStart => exact ⟨(L.length : Int) - 1, by omega, by omega, rfl, bW, eW, fun j h q => by omega⟩
  case round =>
    obtain ⟨k, hk0, hk1, rfl, HB, HE, HN⟩ := hrel
    by_cases hlt : 0 < k
    · obtain ⟨n, rfl⟩ := Int.eq_ofNat_of_zero_le (show 0 ≤ k by omega)
      have hn : n < L.length := by omega
      obtain ⟨bb, o, rfl, hb, c0, c1, c2, c3⟩ := (hm.below HB.out).child hn
      have HC : Hid (∀ wx, Calls Tryz.prog 32 #[.agg #[.string L[n].e.key, .int .u32 L[n].e.page, .int .i64 L[n].e.slot], .agg #[.string e.key, .int .u32 e.page, .int .i64 e.slot]] wx fun r w' => r = .returned (.int .i64 (cmpE L[n].e e)) ∧ Below wx.heap.size wx w') := fun wx => entries_any _ _ _ _ _ _ wx
      have HG : Hid (gtE L[n].e e = decide (0 < cmpE L[n].e e)) := rfl
      have HNN : Hid (gtE L[n].e e = true → ∀ j (h : j < L.length), ((n : Int) - 1) < (j : Int) → gtE L[j].e e = true) := fun hg j h q => by
        by_cases e1 : j = n
        · subst e1; exact hg
        · exact HN.out j h (by omega)
      have HDD : Hid (gtE L[n].e e = false → DownIs L e n) := fun hg => ⟨.inr ⟨hn, hg⟩, fun j h q => HN.out j h (by omega)⟩
      generalize gtE L[n].e e = G at *
      generalize cmpE L[n].e e = C at *
      generalize L[n] = x at *
      obtain ⟨d0, d1, d2, dl⟩ := HE.out
      have HE' : EBox wr w.heap.size e := ⟨d0, d1, d2, dl⟩
      have hi0 : (0 : Int) ≤ (n : Int) := by omega
      have hi1 : (n : Int) < (L.length : Int) := by omega
      have hgt : decide ((0 : Int) < (n : Int)) = true := by rw [decide_eq_true_eq]; exact hlt
      have hgtN : decide (0 < n) = true := by rw [decide_eq_true_eq]; omega
      have hltN : 0 < n := by omega
      go_upto_region 2 with fail
      go_cut [20] from 9 to 19 (fun v wx => v = .bool (decide (0 < C)) ∧ Hid (Below wr.heap.size wr wx))
      case first =>
        go_region_held3 (fun wy => (wy.cell? ⟨bb, o + n * 4 + 1, none⟩ = some (.string x.e.key) ∧ wy.cell? ⟨bb, o + n * 4 + 2, none⟩ = some (.int .u32 x.e.page) ∧ wy.cell? ⟨bb, o + n * 4 + 3, none⟩ = some (.int .i64 x.e.slot)) ∧ (wy.cell? ⟨w.heap.size, 0, none⟩ = some (.string e.key) ∧ wy.cell? ⟨w.heap.size, 1, none⟩ = some (.int .u32 e.page) ∧ wy.cell? ⟨w.heap.size, 2, none⟩ = some (.int .i64 e.slot)))
          (first | (go_keep; done) | exact s1)
          (first
            | (go_at_call 32; refine (HC.out _).mono ?_; rintro x1 w1 ⟨rfl, b1⟩
               have b1' : Below wr.heap.size wr w1 := ⟨b1.os, b1.tape, b1.output, b1.size, b1.block⟩
               have e1 := HE'.below b1' dl
               have s1 := And.intro (And.intro ((b1'.cell (p := ⟨bb, o + n * 4 + 1, none⟩) hb).trans c1) (And.intro ((b1'.cell (p := ⟨bb, o + n * 4 + 2, none⟩) hb).trans c2) ((b1'.cell (p := ⟨bb, o + n * 4 + 3, none⟩) hb).trans c3))) (And.intro e1.c0 (And.intro e1.c1 e1.c2))
               have bb1 := hidn b1'))
        go_wp2
        go_meet
        case rel => exact ⟨rfl, bb1⟩
      obtain ⟨rfl, HBw⟩ := hcut
      by_cases hg : 0 < C
      · have hG := hidn (HNN.out (by rw [HG.out]; exact decide_eq_true hg))
        go_wp2
        go_roundw
        case rel => exact ⟨(n : Int) - 1, by omega, by omega, by go_num, below_chain HB.out HBw.out, HE'.below HBw.out dl, hG.out⟩
        case measure => first | (simp [intOf]; done) | (simp [intOf]; omega)
      · have hG := hidn (HDD.out (by rw [HG.out]; exact decide_eq_false hg))
        go_wp2
        go_ret
        exact ⟨⟨n, nret_int (by omega), hG.out⟩, below_chain HB.out HBw.out⟩
    · have hgt : decide ((0 : Int) < k) = false := by rw [decide_eq_false_iff_not]; exact hlt
      have hD := hidn (show DownIs L e 0 from ⟨.inl rfl, fun j h q => HN.out j h (by omega)⟩)
      go_upto_region 2 with fail
      go_quiet (fail)
      go_wp2
      go_ret
      exact ⟨⟨0, nret_int (by omega), hD.out⟩, below_drewN HB.out _⟩

end Go.Proofs.YtpllidadpcahbaaGreat

/-
  The walk of girderlaw09.TxnSaves.
-/
import Derived.Test.YtdokafldallnkaaGreatSavesMJ
import Derived.Deep.AppendLies
import Derived.Deep.RegionHeld3
import Derived.BigQuiet
namespace Go.Proofs.YtdokafldallnkaaGreat
open Go.RowKit Go.Sort
set_option linter.unusedVariables false
set_option linter.unusedSimpArgs false

theorem sv_dok (r : Nat) : DOk (newD r) 0 := ⟨rfl, rfl, ⟨(fun x hx => by cases hx), (fun q => zerosS_size), by show 0 + 0 ≤ _; omega, by show 0 ≤ _; omega, Nat.le_refl _⟩, rfl, (fun q => rfl), by show 0 ≤ 10; omega, Nat.le_refl _, Nat.le_refl _⟩
theorem svmixed : Tryz.prog.follows .mixedOrders = true := by kernel_rfl
theorem svInfoL : (Tryz.prog.info? 28).map (fun i => (i.zero, i.size, i.bytes)) = some (some (.int .u64 0), 1, 8) := by kernel_rfl
theorem svInfoT : (Tryz.prog.info? 9).map (fun i => (i.zero, i.size, i.bytes)) = some (some (.string ⟨#[]⟩), 1, 16) := by kernel_rfl

theorem sv_and15 (n : Int) : bits .and .i64 n 15 = n % 16 := by
  have h63 : (BitVec.ofInt 64 15).toNat = 2 ^ 4 - 1 := by decide
  have key : (BitVec.ofInt 64 n &&& BitVec.ofInt 64 15).toNat = (n % ((2 ^ 64 : Nat) : Int)).toNat % 2 ^ 4 := by
    rw [BitVec.toNat_and, BitVec.toNat_ofInt, h63, Nat.and_two_pow_sub_one_eq_mod]
  show IntKind.i64.wrap ((BitVec.ofInt 64 n &&& BitVec.ofInt 64 15).toNat : Nat) = n % 16
  rw [key, IntKind.wrap_i64]
  omega

theorem sv_byte {P : Program} (w : World) (k : Nat) (hk : k < 256) (src dst el : TypeId) (hs : P.underlying src = some (.slice el)) (he : P.underlying el = some (.int .u8)) (hd : P.underlying dst = some .string) :
    (convert src dst (.slice (some ⟨w.heap.size, 0, none⟩) 1 1)).run P (w.alloc (.cells #[.int .u8 (k : Int)] el)) = .ok (.string ⟨#[UInt8.ofNat k]⟩) (w.alloc (.cells #[.int .u8 (k : Int)] el)) := by
  refine RowU.toString (N := 1) (f := fun j => (k : Int)) (fun j hj => ?_) [UInt8.ofNat k] rfl (fun j hj => ?_) src dst el hs he hd
  · obtain rfl : j = 0 := by omega
    exact ⟨by simp, by simp⟩
  · simp at hj
    obtain rfl : j = 0 := by omega
    simp; omega

def SvArg (w : World) (a : Option Addr) (n : Nat) (A : Nat → Int) : Prop := n = 0 ∨ ∃ b o, a = some ⟨b, o, none⟩ ∧ b < w.heap.size ∧ ∀ i, i < n → w.cell? ⟨b, o + i, none⟩ = some (.int .i64 (A i))

theorem sv_arith (x : Int) (n : Nat) (h1 : 1 ≤ n) (h2 : n ≤ 20) : ∃ (q : Int) (k : Nat), x.tmod (n : Int) = q ∧ -21 < q ∧ q < 21 ∧ wrap64 (q + n) = q + n ∧ (q + n).tmod n = k ∧ k < n := by
  have hp : (0 : Int) < (n : Int) := by omega
  have t1 := Int.tmod_lt_of_pos x hp
  have t2 := Int.lt_tmod_of_pos x hp
  have t3 : (x.tmod (n : Int) + n).tmod n = (x.tmod (n : Int) + n) % n := Int.tmod_eq_emod_of_nonneg (by omega)
  have t4 := Int.emod_nonneg (x.tmod (n : Int) + n) (show (n : Int) ≠ 0 by omega)
  have t5 := Int.emod_lt_of_pos (x.tmod (n : Int) + n) hp
  refine ⟨x.tmod n, ((x.tmod (n : Int) + n) % n).toNat, rfl, by omega, by omega, ?_, ?_, by omega⟩
  · generalize x.tmod (n : Int) = r at *
    unfold wrap64; omega
  · rw [t3, Int.toNat_of_nonneg t4]

set_option maxHeartbeats 6400000 in
set_option maxRecDepth 20000 in
theorem tsaves_walk (a : Option Addr) (n c : Nat) (A : Nat → Int) (x : Int) (w : World) (hA : SvArg w a n A) (hn : n ≤ 9223372036854775807) :
    Calls Tryz.prog 7 #[.slice a n c, .int .i64 x] w fun e w' => e = .returned (.bool true) ∧ Below w.heap.size w w' := by
  have HB := hidx (tbegun_any w)
  have HAA := hidx hA
  clear hA
  go_enter Tryz.func7, Tryz.ntmps7
  go_wp2_with fail
  refine HB.out.mono ?_
  rintro e w1 ⟨⟨m, p, dp, lp, A1, rfl, h1, hA1, b1⟩⟩
  have O1 : Hid (Ours w w1 A1) := hidx ⟨hA1, b1⟩
  have H1 := hidx h1
  have HAW := hidx (tawake_any w1)
  clear HB h1 hA1 b1
  go_wp2_with fail
  refine HAW.out.mono ?_
  rintro e w2 ⟨rfl, b2⟩
  have H2 := hidx (H1.out.below b2)
  have O2 := hidx (O1.out.below b2)
  have HBE := hidx (begin_ok H2.out (by show 1 ≤ _; omega) rfl (by show 0 < 64; omega) (by show 0 ≤ _; omega) (by show 0 + 128 + 0 ≤ _; omega))
  clear HAW H1 O1 b2 H2
  go_wp2_with fail
  refine HBE.out.mono ?_
  rintro e w3 ⟨rfl, A3, b, h3, mv3⟩
  have e1 : (mg0.next : Int) = 1 := rfl
  rw [e1] at h3
  rw [e1]
  obtain ⟨X, HX⟩ : ∃ X, Hid (bornX (fun _ => 0) 1 b = X) := ⟨_, rfl⟩
  rw [HX.out] at h3
  have O3 := O2.out.step mv3
  obtain ⟨V0, HV0⟩ : ∃ V0 : Nat → ByteArray, Hid ((fun _ => ⟨#[48]⟩) = V0) := ⟨_, rfl⟩
  have g0 : GX w3 w3 m p X A3 lp (newD 64) mg0.born 1 0 128 0 0 0 [] V0 [] := by
    have hT : mg0.born.T (1 : Nat) = some (fresh 1) := rfl
    refine ⟨A3, _, { log0 dp with kept := (log0 dp).kept + 128 }, [], fresh 1, by rw [MgG.set_self hT]; exact h3, ⟨(RecsAt.nil dp).starts, (RecsAt.nil dp).long, (RecsAt.nil dp).text⟩, TxG.start [] _ 1 (by omega), rfl, rfl, by show 0 + (0 + 128) ≤ 128; omega, by rw [← HV0.out]; exact PgV.start dp lp, Moves.refl _ _, by show 0 + 0 ≤ 128; omega, Nat.zero_le _, Nat.zero_le _, GTo.refl _ _ _, ⟨rfl, Nat.le_refl _, Nat.zero_le _, rfl⟩⟩
  obtain ⟨i0, hi, hz0, hz1, hz2⟩ := info_parts svInfoL
  obtain ⟨j0, hj, hy0, hy1, hy2⟩ := info_parts svInfoT
  have HS0 : Hid (SvI w ((w3.alloc (.cells #[] 28)).alloc (.cells #[] 9)) m p X lp (newD 64) mg0.born 1 0 (128 + 2000 * 0) V0 [] (.slice (some ⟨w3.heap.size, 0, none⟩) 0 0) (.slice (some ⟨w3.heap.size + 1, 0, none⟩) 0 0) [] []) := by
    have b : Below w3.heap.size w3 ((w3.alloc (.cells #[] 28)).alloc (.cells #[] 9)) := ((Below.refl _ _).alloc (Nat.le_refl _) _).alloc (by simp) _
    have hz := O3.bl.size
    have e1 : ((w3.alloc (.cells #[] 28)).alloc (.cells #[] 9)).heap[w3.heap.size]? = some (.cells #[] 28 (0, 0)) :=
      (Below.heap_alloc _ _ _ (by simp)).trans (heap_alloc_new w3 _)
    have e2 : ((w3.alloc (.cells #[] 28)).alloc (.cells #[] 9)).heap[w3.heap.size + 1]? = some (.cells #[] 9 (0, 0)) := by
      have := heap_alloc_new (w3.alloc (.cells #[] 28)) (.cells #[] 9)
      simpa using this
    have hlt := h3.lt
    refine ⟨⟨A3, 0, 0, [], g0.grown (fun k x => b.block k (hlt k x)) b.size, ⟨O3.below b, fun k x => Nat.lt_of_lt_of_le (hlt k x) b.size, ⟨rfl, .inr ⟨w3.heap.size, 0, #[], rfl, Nat.zero_le _, e1, Nat.le_refl _, Nat.zero_le _, rfl, rfl⟩⟩, ⟨rfl, .inr ⟨w3.heap.size + 1, 0, #[], rfl, Nat.zero_le _, e2, Nat.le_refl _, Nat.zero_le _, rfl, rfl⟩⟩, ?_, ?_⟩⟩, SvG.nil V0, trivial, by rw [← HV0.out]; rfl, fun y hy => by simp at hy⟩
    · intro g k
      have k' : w3.heap.size = g := Option.some.inj k
      exact ⟨fun x => by have := hlt g x; omega, by omega⟩
    · intro g k
      have k' : w3.heap.size + 1 = g := Option.some.inj k
      exact ⟨fun x => by have := hlt g x; omega, by omega⟩
  clear HBE O2 h3 mv3 HX O3 HV0 g0
  go_wp2_with fail
  go_loopw [9, 10, 11] (fun v9 v10 v11 wr => ∃ (i : Nat) (V : Nat → ByteArray) (L : List UpG) (ps : List Nat) (ss : List ByteArray) (pa ta : Option Addr) (pc tc : Nat), v9 = .slice pa i pc ∧ v10 = .slice ta i tc ∧ v11 = .int .i64 i ∧ i ≤ n ∧ i ≤ 20 ∧ Hid (L.length = i) ∧ Hid (SvI w wr m p X lp (newD 64) mg0.born 1 0 (128 + 2000 * i) V L (.slice pa i pc) (.slice ta i tc) ps ss)) (fun _ _ v _ => 20 - (intOf v).toNat)
  case atStart => exact ⟨0, V0, [], [], [], _, _, _, _, rfl, rfl, rfl, Nat.zero_le _, Nat.zero_le _, hidx rfl, HS0⟩
  case round =>
    obtain ⟨i, V, L, ps, ss, pa, ta, pc, tc, rfl, rfl, rfl, hin, hi20, HLL, HSI⟩ := hrel
    clear HS0
    by_cases hlt : i < n ∧ i < 20
    · obtain ⟨hl1, hl2⟩ := hlt
      obtain ⟨A4, B4, a4, Ls4, g4, r4⟩ := HSI.out.ex
      have hpsl : ps.length = i := HSI.out.sv.lp.trans HLL.out
      have hssl : ss.length = i := HSI.out.sv.ls.trans HLL.out
      have HSV := hidx (gx_save2 g4)
      have R4 := hidx r4
      have HPS := hidx hpsl
      have HSS := hidx hssl
      obtain ⟨ab, ao, rfl, hab, hcel⟩ : ∃ b o, a = some ⟨b, o, none⟩ ∧ b < w.heap.size ∧ ∀ i, i < n → w.cell? ⟨b, o + i, none⟩ = some (.int .i64 (A i)) := by
        rcases HAA.out with h | h
        · omega
        · exact h
      have HCA : Hid (∀ W : World, Below w.heap.size w W → W.cell? ⟨ab, ao + i, none⟩ = some (.int .i64 (A i))) := fun W hW => (World.cell?_of_block (w := w) (a := ⟨ab, ao + i, none⟩) (hW.block ab hab)).trans (hcel i hl1)
      obtain ⟨r, hr, hr16⟩ : ∃ r : Nat, bits .and .i64 (A i) 15 = (r : Int) ∧ r < 16 := ⟨(A i % 16).toNat, by rw [sv_and15]; omega, by omega⟩
      obtain ⟨z, HZ⟩ : ∃ z, Hid (A i = z) := ⟨_, rfl⟩
      rw [HZ.out] at hr
      have HR := hidx hr
      have d1 : decide ((i : Int) < (n : Int)) = true := by simp; omega
      have d1' : decide (i < n) = true := by simp; omega
      have d2 : decide ((i : Int) < 20) = true := by simp; omega
      have d2' : decide (i < 20) = true := by simp; omega
      clear g4 r4 hpsl hssl hcel hr
      go_wp2_with fail
      refine HSV.out.mono ?_
      rintro e w4 ⟨a', B', rfl, hab', hpl', g4', hw4⟩
      obtain rfl := hw4
      have G4 := hidx g4'
      have HPL := hidx (⟨hab', hpl'⟩ : a' ≤ B' ∧ plOf (ups L) ≤ a')
      have b5 : Below wr.heap.size wr (wr.alloc (.cells #[.int .u64 (a' : Int)] 28)) := (Below.refl _ _).alloc (Nat.le_refl _) _
      have P5 := hidx (R4.out.below b5).pl
      rw [HPS.out] at P5
      have N5 : Hid (∀ j u, [Value.int .u64 (a' : Int)][j]? = some u → (wr.alloc (.cells #[.int .u64 (a' : Int)] 28)).cell? ((⟨wr.heap.size, 0, none⟩ : Addr).add j) = some u) := World.news_of_block (heap_alloc_new wr _)
      have H15 : Hid (∀ u ∈ [Value.int .u64 (a' : Int)], u.oneCell' = true) := by intro u hu; simp at hu; subst hu; rfl
      have B5 := hidx b5
      clear HSV g4' hab' hpl' b5
      go_wp2_with (at_builtin; refine wpList_append_lies _ rfl _ _ 94 rfl 0 28 i0 _ 1 8 Tryz.underlying94 hi hz0 hz1 hz2 rfl (by decide) (.slice pa i pc) i (ps.map fun k => Value.int .u64 ((k : Nat) : Int)) rfl P5.out ⟨wr.heap.size, 0, none⟩ 1 1 [.int .u64 (a' : Int)] rfl rfl N5.out H15.out (by decide) (by unfold maxLen; omega) (by omega) (Nat.zero_le _) _ rfl ?_; intro g5 cap5 w5 hown5 hgrow5 hloc5 hlt5)
      obtain ⟨r5, hs5, hz5⟩ := R4.out.push1 (x := a') (pv' := .slice (some ⟨g5, 0, none⟩) (i + 1) cap5) B5.out (by rw [HPS.out]; exact hown5) hgrow5 (fun k hk => by
        obtain rfl : g5 = k := Option.some.inj hk
        rcases hloc5 with h | h
        · exact .inl h
        · exact .inr (by omega))
      have G5 := hidx (G4.out.grown hs5 hz5)
      have R5 := hidx r5
      obtain ⟨S0, HS0⟩ : ∃ S, Hid (V 1 = S) := ⟨_, rfl⟩
      have HSL := hidx (gx_slot G5.out 1 (by omega) (by omega))
      rw [HS0.out] at HSL
      clear P5 N5 H15 B5 hown5 hgrow5 hloc5 hlt5 r5 hs5 hz5 G4 R4
      refine HSL.out.mono ?_
      rintro e w6 ⟨rfl, b6⟩
      have G6 := hidx (G5.out.grown (fun k x => b6.block k (R5.out.lt k x)) b6.size)
      have R6 := hidx (R5.out.below b6)
      clear HSL G5 R5 b6
      have b7 : Below w6.heap.size w6 (w6.alloc (.cells #[.string S0] 9)) := (Below.refl _ _).alloc (Nat.le_refl _) _
      have P7 := hidx (R6.out.below b7).tx
      rw [HSS.out] at P7
      have N7 : Hid (∀ j u, [Value.string S0][j]? = some u → (w6.alloc (.cells #[.string S0] 9)).cell? ((⟨w6.heap.size, 0, none⟩ : Addr).add j) = some u) := World.news_of_block (heap_alloc_new w6 _)
      have H17 : Hid (∀ u ∈ [Value.string S0], u.oneCell' = true) := by intro u hu; simp at hu; subst hu; rfl
      have B7 := hidx b7
      clear b7
      go_wp2_with (at_builtin; refine wpList_append_lies _ rfl _ _ 95 rfl 0 9 j0 _ 1 16 Tryz.underlying95 hj hy0 hy1 hy2 rfl (by decide) (.slice ta i tc) i (ss.map Value.string) rfl P7.out ⟨w6.heap.size, 0, none⟩ 1 1 [.string S0] rfl rfl N7.out H17.out (by decide) (by unfold maxLen; omega) (by omega) (Nat.zero_le _) _ rfl ?_; intro g7 cap7 w7 hown7 hgrow7 hloc7 hlt7)
      obtain ⟨r7, hs7, hz7⟩ := R6.out.push2 (s := S0) (tv' := .slice (some ⟨g7, 0, none⟩) (i + 1) cap7) B7.out (by rw [HSS.out]; exact hown7) hgrow7 (fun k hk => by
        obtain rfl : g7 = k := Option.some.inj hk
        rcases hloc7 with h | h
        · exact .inl h
        · exact .inr (by omega))
      have G7 := hidx (G6.out.grown hs7 hz7)
      have R7 := hidx r7
      have HSL := hidx (gx_slot G7.out 1 (by omega) (by omega))
      rw [HS0.out] at HSL
      clear P7 N7 H17 B7 hown7 hgrow7 hloc7 hlt7 r7 hs7 hz7 G6 R6
      refine HSL.out.mono ?_
      rintro e w8 ⟨rfl, b8⟩
      have G8 := hidx (G7.out.grown (fun k x => b8.block k (R7.out.lt k x)) b8.size)
      have R8 := hidx (R7.out.below b8)
      clear HSL G7 R7 b8
      have c8 : w8.cell? ⟨ab, ao + i, none⟩ = some (.int .i64 z) := by rw [← HZ.out]; exact HCA.out w8 R8.out.our.bl
      have b9 : Below w8.heap.size w8 (w8.alloc (.cells #[.int .u8 (97 + (r : Int))] 5)) := (Below.refl _ _).alloc (Nat.le_refl _) _
      have hcv := sv_byte (P := Tryz.prog) w8 (97 + r) (by omega) 96 9 5 Tryz.underlying96 Tryz.underlying5 Tryz.underlying9
      rw [show (((97 + r : Nat)) : Int) = 97 + (r : Int) by omega] at hcv
      have G9 := hidx (G8.out.grown (fun k x => b9.block k (R8.out.lt k x)) b9.size)
      have R9 := hidx (R8.out.below b9)
      have hq1 : IntKind.i64.wrap (97 + (r : Int)) = 97 + (r : Int) := by rw [IntKind.wrap_i64]; omega
      have hq2 : IntKind.u8.wrap (97 + (r : Int)) = 97 + (r : Int) := by rw [IntKind.wrap_u8]; omega
      obtain ⟨bt, HBT⟩ : ∃ bt : ByteArray, Hid (⟨#[UInt8.ofNat (97 + r)]⟩ = bt) := ⟨_, rfl⟩
      have hbt : bt.size = 1 := by rw [← HBT.out]; rfl
      rw [HBT.out] at hcv
      have hlong := HSI.out.long
      have hS0 : S0.size = 1 + i := by rw [← HS0.out, hlong, HLL.out]
      obtain ⟨S1, HS1⟩ : ∃ S1 : ByteArray, Hid (S1 = S0 ++ bt) := ⟨_, rfl⟩
      have hS1 : S1.size = 2 + i := by rw [HS1.out, ByteArray.size_append, hbt]; omega
      have hcat : ¬ (9223372036854775807 < S0.size + bt.size) := by rw [hbt]; omega
      have HLO := hidx (gx_log G9.out 1 (by omega) (by omega) S1 (by omega) (by rw [HS0.out]; omega) (by omega))
      rw [HS0.out] at HLO
      have HCV : Hid ((setC 1 S1 S0).cells = #[.int .u32 1, .int .i64 4, .int .i64 0, .string S1, .string S0, .int .i64 1, .int .i64 0, .string ⟨#[]⟩, .int .u32 0, .int .i64 0, .bool false]) := rfl
      rw [HCV.out] at HLO
      have HS1z := hidx hS1
      have hr := HR.out
      clear HCV G8 R8 b9 hlong hS0 hS1
      go_wp2_with fail
      rw [← HS1.out]
      refine HLO.out.mono ?_
      rintro e w10 ⟨pl, prev, rfl, hpl, g10⟩
      obtain ⟨A10, g10', mv10, lt10⟩ := g10.re
      have hSI : SvI w w10 m p X lp (newD 64) mg0.born 1 0 (128 + 2000 * (i + 1)) (updV V 1 S1) (⟨⟨pl, S1, S0⟩, 1, prev⟩ :: L) (.slice (some ⟨g5, 0, none⟩) (i + 1) cap5) (.slice (some ⟨g7, 0, none⟩) (i + 1) cap7) (ps ++ [a']) (ss ++ [S0]) := by
        have hI := HSI.out
        have hput := hI.sv.put (a := a') (pl := pl) (prev := prev) (S := S1) HPL.out.2 (by have := HPL.out.1; omega)
        rw [HS0.out] at hput
        refine ⟨⟨A10, _, _, _, g10', R9.out.moves mv10 lt10⟩, hput, ⟨updV_get _ _ _, by show 1 ≤ 5; omega, ?_⟩, ?_, fun y hy => ?_⟩
        · show UndOk (updV (updV V 1 S1) 1 S0) L
          rw [updV_upd, ← HS0.out, updV_self]
          exact hI.undo
        · rw [updV_get, List.length_cons, HLL.out, HS1z.out]; omega
        · rcases List.mem_cons.1 hy with rfl | hy
          · show 0 < pl; omega
          · exact hI.pls y hy
      have HSI' := hidx hSI
      have HLL' : Hid ((⟨⟨pl, S1, S0⟩, 1, prev⟩ :: L : List UpG).length = i + 1) := hidx (by rw [List.length_cons, HLL.out])
      clear HLO g10 g10' mv10 lt10 hpl hSI hcv hr HR c8 hcat hbt HSI HLL R9 G9 HPL HS1z
      go_wp2_with fail
      go_roundw
      case rel => exact ⟨i + 1, _, _, _, _, _, _, _, _, rfl, rfl, by go_num, by omega, by omega, HLL', HSI'⟩
      case measure => simp [intOf]; omega
    · go_upto_region 7 with fail
      go_cut [46] from 35 to 45 (fun v46 wx => v46 = .bool false ∧ wx = wr)
      case first =>
        by_cases h : i < n
        · have h20 : ¬ i < 20 := by omega
          have d1 : decide ((i : Int) < (n : Int)) = true := by simp; omega
          have d1' : decide (i < n) = true := by simp; omega
          have d2 : decide ((i : Int) < 20) = false := by simp; omega
          have d2' : decide (i < 20) = false := by simp; omega
          go_wp2_with fail
          go_meet
          case rel => exact ⟨rfl, rfl⟩
        · have d1 : decide ((i : Int) < (n : Int)) = false := by simp; omega
          have d1' : decide (i < n) = false := by simp; omega
          go_wp2_with fail
          go_meet
          case rel => exact ⟨rfl, rfl⟩
      obtain ⟨rfl, hw4⟩ := hcut
      obtain rfl := hw4.symm
      clear hw4 hlt
      by_cases hi0 : i = 0
      · subst hi0
        have HBL : Hid (Below w.heap.size w wr) := by
          obtain ⟨A4, B4, a4, Ls4, g4, r4⟩ := HSI.out.ex
          exact r4.our.bl
        go_wp2
        go_ret
        exact ⟨rfl, HBL.out⟩
      · obtain ⟨q, kk, hq, hqa, hqb, hw, hk, hkk⟩ := sv_arith x i (by omega) hi20
        have hsv := HSI.out.sv
        have hpsl : ps.length = i := hsv.lp.trans HLL.out
        have hssl : ss.length = i := hsv.ls.trans HLL.out
        obtain ⟨A4, B4, a4, Ls4, g4, r4⟩ := HSI.out.ex
        obtain ⟨pa', pc', hpe, hpc⟩ := sv_form r4.pl
        obtain ⟨ta', tc', hte, htc⟩ := sv_form r4.tx
        obtain ⟨pg, rfl⟩ : ∃ pg, pa = some ⟨pg, 0, none⟩ := by
          rcases hpc with h | ⟨g, h, _⟩
          · omega
          · exact ⟨g, by simp only [Value.slice.injEq] at hpe; rw [hpe.1, h]⟩
        obtain ⟨tg, rfl⟩ : ∃ tg, ta = some ⟨tg, 0, none⟩ := by
          rcases htc with h | ⟨g, h, _⟩
          · omega
          · exact ⟨g, by simp only [Value.slice.injEq] at hte; rw [hte.1, h]⟩
        obtain ⟨pk, HPK⟩ : ∃ pk, Hid (ps.getD kk 0 = pk) := ⟨_, rfl⟩
        obtain ⟨sk, HSK⟩ : ∃ sk, Hid (ss.getD kk ⟨#[]⟩ = sk) := ⟨_, rfl⟩
        have hT := HSI.out.back kk (by rw [HLL.out]; exact hkk)
        rw [HPK.out, HSK.out] at hT
        have hrow : ∀ wy : World, wy.ownsRow 0 28 1 (.slice (some ⟨pg, 0, none⟩) i pc) ps.length (ps.map fun k => Value.int .u64 ((k : Nat) : Int)) → wy.ownsRow 0 9 1 (.slice (some ⟨tg, 0, none⟩) i tc) ss.length (ss.map Value.string) → wy.cell? ⟨pg, kk, none⟩ = some (.int .u64 pk) ∧ wy.cell? ⟨tg, kk, none⟩ = some (.string sk) := fun wy h1 h2 => by
          rw [hpsl] at h1
          rw [hssl] at h2
          refine ⟨owns_cells h1 kk _ ?_, owns_cells h2 kk _ ?_⟩
          · rw [← HPK.out, List.getElem?_map, List.getElem?_eq_getElem (by omega), List.getD_eq_getElem?_getD, List.getElem?_eq_getElem (by omega)]; rfl
          · rw [← HSK.out, List.getElem?_map, List.getElem?_eq_getElem (by omega), List.getD_eq_getElem?_getD, List.getElem?_eq_getElem (by omega)]; rfl
        have HCL : Hid (∀ wy j, SvB w wy m p X lp (newD 64) mg0.born 1 0 (128 + 2000 * i) (.slice (some ⟨pg, 0, none⟩) i pc) (.slice (some ⟨tg, 0, none⟩) i tc) ps ss pk sk j → wy.cell? ⟨pg, kk, none⟩ = some (.int .u64 pk) ∧ wy.cell? ⟨tg, kk, none⟩ = some (.string sk)) := fun wy j h => hrow wy h.cells.1 h.cells.2.1
        have HCC : Hid (∀ wy, SvC w wy m p X (.slice (some ⟨pg, 0, none⟩) i pc) (.slice (some ⟨tg, 0, none⟩) i tc) ps ss sk → wy.cell? ⟨pg, kk, none⟩ = some (.int .u64 pk) ∧ wy.cell? ⟨tg, kk, none⟩ = some (.string sk)) := fun wy h => hrow wy (h.row (Below.refl _ _)).1 (h.row (Below.refl _ _)).2.1
        have HCD : Hid (∀ wx, SvC w wx m p X (.slice (some ⟨pg, 0, none⟩) i pc) (.slice (some ⟨tg, 0, none⟩) i tc) ps ss sk → ∀ wy, Below wx.heap.size wx wy → wy.cell? ⟨pg, kk, none⟩ = some (.int .u64 pk) ∧ wy.cell? ⟨tg, kk, none⟩ = some (.string sk)) := fun wx h wy b => hrow wy (h.row b).1 (h.row b).2.1
        have HCB : Hid (∀ wx, SvC w wx m p X (.slice (some ⟨pg, 0, none⟩) i pc) (.slice (some ⟨tg, 0, none⟩) i tc) ps ss sk → ∀ wy, Below wx.heap.size wx wy → Below w.heap.size w wy) := fun wx h wy b => (h.row b).2.2
        have HFF : Hid (128 + 2000 * i ≤ 4194304) := by show _ ≤ _; omega
        have HRL : Hid (∀ wx j, SvB w wx m p X lp (newD 64) mg0.born 1 0 (128 + 2000 * i) (.slice (some ⟨pg, 0, none⟩) i pc) (.slice (some ⟨tg, 0, none⟩) i tc) ps ss pk sk j → ∀ wy, wx.drew.alloc (.cells #[.pointer (some ⟨m, 0, none⟩)] 23) = wy → (wy.cell? ⟨pg, kk, none⟩ = some (.int .u64 pk) ∧ wy.cell? ⟨tg, kk, none⟩ = some (.string sk)) ∧ Calls Tryz.prog 26 #[.pointer (some ⟨m, 0, none⟩), .int .i64 1, .int .u64 pk, .func (.func 80) #[] #[.pointer (some ⟨wx.drew.heap.size, 0, none⟩)]] wy fun e w' => e = .returned (.int .i64 0) ∧ SvB w w' m p X lp (newD 64) mg0.born 1 0 (128 + 2000 * i) (.slice (some ⟨pg, 0, none⟩) i pc) (.slice (some ⟨tg, 0, none⟩) i tc) ps ss pk sk 0) := fun wx j h wy hwy => by
          have by1 : Below wx.heap.size wx wy := by rw [← hwy]; exact ((Below.refl _ _).drew).alloc (Nat.le_refl _) _
          have xb : Blk wy wx.drew.heap.size #[.pointer (some ⟨m, 0, none⟩)] 23 := by rw [← hwy]; exact Blk.made _ _ _
          exact ⟨HCL.out _ _ (h.below by1), sv_roll h HFF.out wx.drew.heap.size (Nat.le_refl _) by1 (xb.cell 0)⟩
        have HRL1 := hidx (HRL.out wr _ hT)
        obtain ⟨x0, x1⟩ := HCL.out _ _ hT
        have hi1 : ¬ ((i : Int) = 0) := by omega
        have hk1 : (kk : Int) < (i : Int) := by omega
        obtain ⟨s, hs⟩ : ∃ s : Int, q + (i : Int) = s := ⟨_, rfl⟩
        rw [hs] at hw hk
        have d0 : decide ((i : Int) = 0) = false := by simp; omega
        have hqw : IntKind.i64.wrap (q + (i : Int)) = s := by rw [hs, IntKind.wrap_i64]; omega
        clear hsv hpsl hssl g4 r4 hpe hpc hte htc hT hrow HSI HLL HAA
        go_upto_region 18 with fail
        refine wp_region_noPanic ?_
        refine wp_region_held_drew (S := (fun wy : World => wy.cell? ⟨pg, kk, none⟩ = some (.int .u64 pk) ∧ wy.cell? ⟨tg, kk, none⟩ = some (.string sk))) svmixed ⟨x0, x1⟩ (fun hH => ?_)
        refine wpAnyH_take (i := 0) (v := (.pointer (some ⟨m, 0, none⟩))) (by simp only [List.getElem?_toArray, List.getElem?_cons_zero]; rfl) (by kernel_rfl) (by kernel_rfl) (by kernel_rfl) (fun _ _ _ h => h) (Or.inl ⟨by rfl, ?_⟩) hH ?_
        · intro wz hSw
          clear hSw
          go_simp
        try simp only [Act.put, List.setIfInBounds_toArray, List.set_cons_zero, List.set_cons_succ]
        refine wpAnyH_take (i := 1) (v := (.int .i64 1)) (by simp only [List.getElem?_toArray, List.getElem?_cons_succ, List.getElem?_cons_zero]; rfl) (by kernel_rfl) (by kernel_rfl) (by kernel_rfl) (fun _ _ _ h => h) (Or.inl ⟨by rfl, ?_⟩) hH ?_
        · intro wz hSw
          clear hSw
          go_simp
        try simp only [Act.put, List.setIfInBounds_toArray, List.set_cons_zero, List.set_cons_succ]
        refine wpAnyH_take (i := 2) (v := (.slice (some ⟨pg, 0, none⟩) i pc)) (by simp only [List.getElem?_toArray, List.getElem?_cons_succ, List.getElem?_cons_zero]; rfl) (by kernel_rfl) (by kernel_rfl) (by kernel_rfl) (fun _ _ _ h => h) (Or.inl ⟨by rfl, ?_⟩) hH ?_
        · intro wz hSw
          clear hSw
          go_simp
        try simp only [Act.put, List.setIfInBounds_toArray, List.set_cons_zero, List.set_cons_succ]
        refine wpAnyH_take (i := 3) (v := (.int .i64 kk)) (by simp only [List.getElem?_toArray, List.getElem?_cons_succ, List.getElem?_cons_zero]; rfl) (by kernel_rfl) (by kernel_rfl) (by kernel_rfl) (fun _ _ _ h => h) (Or.inl ⟨by rfl, ?_⟩) hH ?_
        · intro wz hSw
          clear hSw
          go_simp
        try simp only [Act.put, List.setIfInBounds_toArray, List.set_cons_zero, List.set_cons_succ]
        refine wpAnyH_take (i := 4) (v := (.pointer (some ⟨pg, kk, none⟩))) (by simp only [List.getElem?_toArray, List.getElem?_cons_succ, List.getElem?_cons_zero]; rfl) (by kernel_rfl) (by kernel_rfl) (by kernel_rfl) (fun _ _ _ h => h) (Or.inl ⟨by rfl, ?_⟩) hH ?_
        · intro wz hSw
          clear hSw
          go_simp
        try simp only [Act.put, List.setIfInBounds_toArray, List.set_cons_zero, List.set_cons_succ]
        refine wpAnyH_take (i := 5) (v := (.int .u64 pk)) (by simp only [List.getElem?_toArray, List.getElem?_cons_succ, List.getElem?_cons_zero]; rfl) (by kernel_rfl) (by kernel_rfl) (by kernel_rfl) (fun _ _ _ h => h) (Or.inl ⟨by rfl, ?_⟩) hH ?_
        · intro wz hSw
          obtain ⟨s0, s1⟩ := hSw
          go_simp
        try simp only [Act.put, List.setIfInBounds_toArray, List.set_cons_zero, List.set_cons_succ]
        refine wpAnyH_take (i := 6) (v := (.pointer (some ⟨m, 0, none⟩))) (by simp only [List.getElem?_toArray, List.getElem?_cons_succ, List.getElem?_cons_zero]; rfl) (by kernel_rfl) (by kernel_rfl) (by kernel_rfl) (fun _ _ _ h => h) (Or.inl ⟨by rfl, ?_⟩) hH ?_
        · intro wz hSw
          clear hSw
          go_simp
        try simp only [Act.put, List.setIfInBounds_toArray, List.set_cons_zero, List.set_cons_succ]
        refine wpAnyH_ready (rs := [7]) (by kernel_rfl) (by simp) ?_
        refine AllReadyH.cons (i := 7) (by simp only [List.getElem?_toArray, List.getElem?_cons_succ, List.getElem?_cons_zero]; rfl) (fun K hK => ?_) AllReadyH.nil
        go_simp
        refine (back_any m _).mono ?_
        rintro e wb18 ⟨rfl, hb18⟩
        obtain ⟨cb18, rl18⟩ := HRL1.out _ hb18
        clear hb18
        refine hK.out _ _ (cb18) (fun hH1 => ?_)
        clear hK K hH
        try simp only [Act.put, List.setIfInBounds_toArray, List.set_cons_zero, List.set_cons_succ]
        refine wpAnyH_ready (rs := [8]) (by kernel_rfl) (by simp) ?_
        refine AllReadyH.cons (i := 8) (by simp only [List.getElem?_toArray, List.getElem?_cons_succ, List.getElem?_cons_zero]; rfl) (fun K hK => ?_) AllReadyH.nil
        go_simp
        refine rl18.mono ?_
        rintro e wr18 ⟨rfl, T18⟩
        clear rl18 cb18
        refine hK.out _ _ (HCL.out _ _ T18) (fun hH2 => ?_)
        clear hK K hH1
        try simp only [Act.put, List.setIfInBounds_toArray, List.set_cons_zero, List.set_cons_succ]
        refine wpAnyH_take (i := 9) (v := (.bool false)) (by simp only [List.getElem?_toArray, List.getElem?_cons_succ, List.getElem?_cons_zero]; rfl) (by kernel_rfl) (by kernel_rfl) (by kernel_rfl) (fun _ _ _ h => h) (Or.inl ⟨by rfl, ?_⟩) hH2 ?_
        · intro wz hSw
          clear hSw
          go_simp
        try simp only [Act.put, List.setIfInBounds_toArray, List.set_cons_zero, List.set_cons_succ]
        refine wpAnyH_take (i := 10) (v := (.bool false)) (by simp only [List.getElem?_toArray, List.getElem?_cons_succ, List.getElem?_cons_zero]; rfl) (by kernel_rfl) (by kernel_rfl) (by kernel_rfl) (fun _ _ _ h => h) (Or.inl ⟨by rfl, ?_⟩) hH2 ?_
        · intro wz hSw
          clear hSw
          go_simp
        try simp only [Act.put, List.setIfInBounds_toArray, List.set_cons_zero, List.set_cons_succ]
        refine wpAnyH_take (i := 11) (v := (.pointer (some ⟨m, 0, none⟩))) (by simp only [List.getElem?_toArray, List.getElem?_cons_succ, List.getElem?_cons_zero]; rfl) (by kernel_rfl) (by kernel_rfl) (by kernel_rfl) (fun _ _ _ h => h) (Or.inl ⟨by rfl, ?_⟩) hH2 ?_
        · intro wz hSw
          clear hSw
          go_simp
        try simp only [Act.put, List.setIfInBounds_toArray, List.set_cons_zero, List.set_cons_succ]
        refine wpAnyH_take (i := 13) (v := (.slice (some ⟨tg, 0, none⟩) i tc)) (by simp only [List.getElem?_toArray, List.getElem?_cons_succ, List.getElem?_cons_zero]; rfl) (by kernel_rfl) (by kernel_rfl) (by kernel_rfl) (fun _ _ _ h => h) (Or.inl ⟨by rfl, ?_⟩) hH2 ?_
        · intro wz hSw
          clear hSw
          go_simp
        try simp only [Act.put, List.setIfInBounds_toArray, List.set_cons_zero, List.set_cons_succ]
        refine wpAnyH_take (i := 14) (v := (.int .i64 kk)) (by simp only [List.getElem?_toArray, List.getElem?_cons_succ, List.getElem?_cons_zero]; rfl) (by kernel_rfl) (by kernel_rfl) (by kernel_rfl) (fun _ _ _ h => h) (Or.inl ⟨by rfl, ?_⟩) hH2 ?_
        · intro wz hSw
          clear hSw
          go_simp
        try simp only [Act.put, List.setIfInBounds_toArray, List.set_cons_zero, List.set_cons_succ]
        refine wpAnyH_take (i := 15) (v := (.pointer (some ⟨tg, kk, none⟩))) (by simp only [List.getElem?_toArray, List.getElem?_cons_succ, List.getElem?_cons_zero]; rfl) (by kernel_rfl) (by kernel_rfl) (by kernel_rfl) (fun _ _ _ h => h) (Or.inl ⟨by rfl, ?_⟩) hH2 ?_
        · intro wz hSw
          clear hSw
          go_simp
        try simp only [Act.put, List.setIfInBounds_toArray, List.set_cons_zero, List.set_cons_succ]
        refine wpAnyH_take (i := 16) (v := (.string sk)) (by simp only [List.getElem?_toArray, List.getElem?_cons_succ, List.getElem?_cons_zero]; rfl) (by kernel_rfl) (by kernel_rfl) (by kernel_rfl) (fun _ _ _ h => h) (Or.inl ⟨by rfl, ?_⟩) hH2 ?_
        · intro wz hSw
          obtain ⟨s0, s1⟩ := hSw
          go_simp
        try simp only [Act.put, List.setIfInBounds_toArray, List.set_cons_zero, List.set_cons_succ]
        refine wpAnyH_ready (rs := [12]) (by kernel_rfl) (by simp) ?_
        refine AllReadyH.cons (i := 12) (by simp only [List.getElem?_toArray, List.getElem?_cons_succ, List.getElem?_cons_zero]; rfl) (fun K hK => ?_) AllReadyH.nil
        go_simp
        refine (sv_slot T18).mono ?_
        rintro e ws18 ⟨rfl, bs18⟩
        have T20 := T18.below bs18
        clear bs18 T18
        refine hK.out _ _ (HCL.out _ _ T20) (fun hH3 => ?_)
        clear hK K hH2
        try simp only [Act.put, List.setIfInBounds_toArray, List.set_cons_zero, List.set_cons_succ]
        refine wpAnyH_take (i := 17) (v := (.bool false)) (by simp only [List.getElem?_toArray, List.getElem?_cons_succ, List.getElem?_cons_zero]; rfl) (by kernel_rfl) (by kernel_rfl) (by kernel_rfl) (fun _ _ _ h => h) (Or.inl ⟨by rfl, ?_⟩) hH3 ?_
        · intro wz hSw
          clear hSw
          go_simp
        try simp only [Act.put, List.setIfInBounds_toArray, List.set_cons_zero, List.set_cons_succ]
        refine wpAnyH_take (i := 18) (v := (.bool false)) (by simp only [List.getElem?_toArray, List.getElem?_cons_succ, List.getElem?_cons_zero]; rfl) (by kernel_rfl) (by kernel_rfl) (by kernel_rfl) (fun _ _ _ h => h) (Or.inl ⟨by rfl, ?_⟩) hH3 ?_
        · intro wz hSw
          clear hSw
          go_simp
        try simp only [Act.put, List.setIfInBounds_toArray, List.set_cons_zero, List.set_cons_succ]
        refine wpAnyH_done (by kernel_rfl) ?_ _
        refine NoPanic.normal ?_
        have HRL2 := hidx (HRL.out _ _ T20)
        obtain ⟨x0, x1⟩ := HCL.out _ _ T20
        go_upto_region 20 with fail
        refine wp_region_noPanic ?_
        refine wp_region_held_drew (S := (fun wy : World => wy.cell? ⟨pg, kk, none⟩ = some (.int .u64 pk) ∧ wy.cell? ⟨tg, kk, none⟩ = some (.string sk))) svmixed ⟨x0, x1⟩ (fun hH => ?_)
        refine wpAnyH_take (i := 0) (v := (.pointer (some ⟨m, 0, none⟩))) (by simp only [List.getElem?_toArray, List.getElem?_cons_zero]; rfl) (by kernel_rfl) (by kernel_rfl) (by kernel_rfl) (fun _ _ _ h => h) (Or.inl ⟨by rfl, ?_⟩) hH ?_
        · intro wz hSw
          clear hSw
          go_simp
        try simp only [Act.put, List.setIfInBounds_toArray, List.set_cons_zero, List.set_cons_succ]
        refine wpAnyH_take (i := 1) (v := (.int .i64 1)) (by simp only [List.getElem?_toArray, List.getElem?_cons_succ, List.getElem?_cons_zero]; rfl) (by kernel_rfl) (by kernel_rfl) (by kernel_rfl) (fun _ _ _ h => h) (Or.inl ⟨by rfl, ?_⟩) hH ?_
        · intro wz hSw
          clear hSw
          go_simp
        try simp only [Act.put, List.setIfInBounds_toArray, List.set_cons_zero, List.set_cons_succ]
        refine wpAnyH_take (i := 2) (v := (.slice (some ⟨pg, 0, none⟩) i pc)) (by simp only [List.getElem?_toArray, List.getElem?_cons_succ, List.getElem?_cons_zero]; rfl) (by kernel_rfl) (by kernel_rfl) (by kernel_rfl) (fun _ _ _ h => h) (Or.inl ⟨by rfl, ?_⟩) hH ?_
        · intro wz hSw
          clear hSw
          go_simp
        try simp only [Act.put, List.setIfInBounds_toArray, List.set_cons_zero, List.set_cons_succ]
        refine wpAnyH_take (i := 3) (v := (.int .i64 kk)) (by simp only [List.getElem?_toArray, List.getElem?_cons_succ, List.getElem?_cons_zero]; rfl) (by kernel_rfl) (by kernel_rfl) (by kernel_rfl) (fun _ _ _ h => h) (Or.inl ⟨by rfl, ?_⟩) hH ?_
        · intro wz hSw
          clear hSw
          go_simp
        try simp only [Act.put, List.setIfInBounds_toArray, List.set_cons_zero, List.set_cons_succ]
        refine wpAnyH_take (i := 4) (v := (.pointer (some ⟨pg, kk, none⟩))) (by simp only [List.getElem?_toArray, List.getElem?_cons_succ, List.getElem?_cons_zero]; rfl) (by kernel_rfl) (by kernel_rfl) (by kernel_rfl) (fun _ _ _ h => h) (Or.inl ⟨by rfl, ?_⟩) hH ?_
        · intro wz hSw
          clear hSw
          go_simp
        try simp only [Act.put, List.setIfInBounds_toArray, List.set_cons_zero, List.set_cons_succ]
        refine wpAnyH_take (i := 5) (v := (.int .u64 pk)) (by simp only [List.getElem?_toArray, List.getElem?_cons_succ, List.getElem?_cons_zero]; rfl) (by kernel_rfl) (by kernel_rfl) (by kernel_rfl) (fun _ _ _ h => h) (Or.inl ⟨by rfl, ?_⟩) hH ?_
        · intro wz hSw
          obtain ⟨s0, s1⟩ := hSw
          go_simp
        try simp only [Act.put, List.setIfInBounds_toArray, List.set_cons_zero, List.set_cons_succ]
        refine wpAnyH_take (i := 6) (v := (.pointer (some ⟨m, 0, none⟩))) (by simp only [List.getElem?_toArray, List.getElem?_cons_succ, List.getElem?_cons_zero]; rfl) (by kernel_rfl) (by kernel_rfl) (by kernel_rfl) (fun _ _ _ h => h) (Or.inl ⟨by rfl, ?_⟩) hH ?_
        · intro wz hSw
          clear hSw
          go_simp
        try simp only [Act.put, List.setIfInBounds_toArray, List.set_cons_zero, List.set_cons_succ]
        refine wpAnyH_ready (rs := [7]) (by kernel_rfl) (by simp) ?_
        refine AllReadyH.cons (i := 7) (by simp only [List.getElem?_toArray, List.getElem?_cons_succ, List.getElem?_cons_zero]; rfl) (fun K hK => ?_) AllReadyH.nil
        go_simp
        refine (back_any m _).mono ?_
        rintro e wb20 ⟨rfl, hb20⟩
        obtain ⟨cb20, rl20⟩ := HRL2.out _ hb20
        clear hb20
        refine hK.out _ _ (cb20) (fun hH1 => ?_)
        clear hK K hH
        try simp only [Act.put, List.setIfInBounds_toArray, List.set_cons_zero, List.set_cons_succ]
        refine wpAnyH_ready (rs := [8]) (by kernel_rfl) (by simp) ?_
        refine AllReadyH.cons (i := 8) (by simp only [List.getElem?_toArray, List.getElem?_cons_succ, List.getElem?_cons_zero]; rfl) (fun K hK => ?_) AllReadyH.nil
        go_simp
        refine rl20.mono ?_
        rintro e wr20 ⟨rfl, T20⟩
        clear rl20 cb20
        refine hK.out _ _ (HCL.out _ _ T20) (fun hH2 => ?_)
        clear hK K hH1
        try simp only [Act.put, List.setIfInBounds_toArray, List.set_cons_zero, List.set_cons_succ]
        refine wpAnyH_take (i := 9) (v := (.bool false)) (by simp only [List.getElem?_toArray, List.getElem?_cons_succ, List.getElem?_cons_zero]; rfl) (by kernel_rfl) (by kernel_rfl) (by kernel_rfl) (fun _ _ _ h => h) (Or.inl ⟨by rfl, ?_⟩) hH2 ?_
        · intro wz hSw
          clear hSw
          go_simp
        try simp only [Act.put, List.setIfInBounds_toArray, List.set_cons_zero, List.set_cons_succ]
        refine wpAnyH_take (i := 10) (v := (.bool false)) (by simp only [List.getElem?_toArray, List.getElem?_cons_succ, List.getElem?_cons_zero]; rfl) (by kernel_rfl) (by kernel_rfl) (by kernel_rfl) (fun _ _ _ h => h) (Or.inl ⟨by rfl, ?_⟩) hH2 ?_
        · intro wz hSw
          clear hSw
          go_simp
        try simp only [Act.put, List.setIfInBounds_toArray, List.set_cons_zero, List.set_cons_succ]
        refine wpAnyH_take (i := 11) (v := (.pointer (some ⟨m, 0, none⟩))) (by simp only [List.getElem?_toArray, List.getElem?_cons_succ, List.getElem?_cons_zero]; rfl) (by kernel_rfl) (by kernel_rfl) (by kernel_rfl) (fun _ _ _ h => h) (Or.inl ⟨by rfl, ?_⟩) hH2 ?_
        · intro wz hSw
          clear hSw
          go_simp
        try simp only [Act.put, List.setIfInBounds_toArray, List.set_cons_zero, List.set_cons_succ]
        refine wpAnyH_take (i := 13) (v := (.slice (some ⟨tg, 0, none⟩) i tc)) (by simp only [List.getElem?_toArray, List.getElem?_cons_succ, List.getElem?_cons_zero]; rfl) (by kernel_rfl) (by kernel_rfl) (by kernel_rfl) (fun _ _ _ h => h) (Or.inl ⟨by rfl, ?_⟩) hH2 ?_
        · intro wz hSw
          clear hSw
          go_simp
        try simp only [Act.put, List.setIfInBounds_toArray, List.set_cons_zero, List.set_cons_succ]
        refine wpAnyH_take (i := 14) (v := (.int .i64 kk)) (by simp only [List.getElem?_toArray, List.getElem?_cons_succ, List.getElem?_cons_zero]; rfl) (by kernel_rfl) (by kernel_rfl) (by kernel_rfl) (fun _ _ _ h => h) (Or.inl ⟨by rfl, ?_⟩) hH2 ?_
        · intro wz hSw
          clear hSw
          go_simp
        try simp only [Act.put, List.setIfInBounds_toArray, List.set_cons_zero, List.set_cons_succ]
        refine wpAnyH_take (i := 15) (v := (.pointer (some ⟨tg, kk, none⟩))) (by simp only [List.getElem?_toArray, List.getElem?_cons_succ, List.getElem?_cons_zero]; rfl) (by kernel_rfl) (by kernel_rfl) (by kernel_rfl) (fun _ _ _ h => h) (Or.inl ⟨by rfl, ?_⟩) hH2 ?_
        · intro wz hSw
          clear hSw
          go_simp
        try simp only [Act.put, List.setIfInBounds_toArray, List.set_cons_zero, List.set_cons_succ]
        refine wpAnyH_take (i := 16) (v := (.string sk)) (by simp only [List.getElem?_toArray, List.getElem?_cons_succ, List.getElem?_cons_zero]; rfl) (by kernel_rfl) (by kernel_rfl) (by kernel_rfl) (fun _ _ _ h => h) (Or.inl ⟨by rfl, ?_⟩) hH2 ?_
        · intro wz hSw
          obtain ⟨s0, s1⟩ := hSw
          go_simp
        try simp only [Act.put, List.setIfInBounds_toArray, List.set_cons_zero, List.set_cons_succ]
        refine wpAnyH_ready (rs := [12]) (by kernel_rfl) (by simp) ?_
        refine AllReadyH.cons (i := 12) (by simp only [List.getElem?_toArray, List.getElem?_cons_succ, List.getElem?_cons_zero]; rfl) (fun K hK => ?_) AllReadyH.nil
        go_simp
        refine (sv_slot T20).mono ?_
        rintro e ws20 ⟨rfl, bs20⟩
        have T21 := T20.below bs20
        clear bs20 T20
        refine hK.out _ _ (HCL.out _ _ T21) (fun hH3 => ?_)
        clear hK K hH2
        try simp only [Act.put, List.setIfInBounds_toArray, List.set_cons_zero, List.set_cons_succ]
        refine wpAnyH_take (i := 17) (v := (.bool false)) (by simp only [List.getElem?_toArray, List.getElem?_cons_succ, List.getElem?_cons_zero]; rfl) (by kernel_rfl) (by kernel_rfl) (by kernel_rfl) (fun _ _ _ h => h) (Or.inl ⟨by rfl, ?_⟩) hH3 ?_
        · intro wz hSw
          clear hSw
          go_simp
        try simp only [Act.put, List.setIfInBounds_toArray, List.set_cons_zero, List.set_cons_succ]
        refine wpAnyH_take (i := 18) (v := (.bool false)) (by simp only [List.getElem?_toArray, List.getElem?_cons_succ, List.getElem?_cons_zero]; rfl) (by kernel_rfl) (by kernel_rfl) (by kernel_rfl) (fun _ _ _ h => h) (Or.inl ⟨by rfl, ?_⟩) hH3 ?_
        · intro wz hSw
          clear hSw
          go_simp
        try simp only [Act.put, List.setIfInBounds_toArray, List.set_cons_zero, List.set_cons_succ]
        refine wpAnyH_done (by kernel_rfl) ?_ _
        refine NoPanic.normal ?_
        have T22 := T21.below ((Below.refl _ _).drew)
        obtain ⟨x0, x1⟩ := HCL.out _ _ T21
        clear HRL HRL1 HRL2 T20
        go_upto_region 22 with fail
        refine wp_region_noPanic ?_
        refine wp_region_held_drew (S := (fun wy : World => wy.cell? ⟨pg, kk, none⟩ = some (.int .u64 pk) ∧ wy.cell? ⟨tg, kk, none⟩ = some (.string sk))) svmixed ⟨x0, x1⟩ (fun hH => ?_)
        refine wpAnyH_take (i := 0) (v := (.pointer (some ⟨m, 0, none⟩))) (by simp only [List.getElem?_toArray, List.getElem?_cons_zero]; rfl) (by kernel_rfl) (by kernel_rfl) (by kernel_rfl) (fun _ _ _ h => h) (Or.inl ⟨by rfl, ?_⟩) hH ?_
        · intro wz hSw
          clear hSw
          go_simp
        try simp only [Act.put, List.setIfInBounds_toArray, List.set_cons_zero, List.set_cons_succ]
        refine wpAnyH_take (i := 1) (v := (.int .i64 1)) (by simp only [List.getElem?_toArray, List.getElem?_cons_succ, List.getElem?_cons_zero]; rfl) (by kernel_rfl) (by kernel_rfl) (by kernel_rfl) (fun _ _ _ h => h) (Or.inl ⟨by rfl, ?_⟩) hH ?_
        · intro wz hSw
          clear hSw
          go_simp
        try simp only [Act.put, List.setIfInBounds_toArray, List.set_cons_zero, List.set_cons_succ]
        refine wpAnyH_ready (rs := [2]) (by kernel_rfl) (by simp) ?_
        refine AllReadyH.cons (i := 2) (by simp only [List.getElem?_toArray, List.getElem?_cons_succ, List.getElem?_cons_zero]; rfl) (fun K hK => ?_) AllReadyH.nil
        go_simp
        refine (sv_commit T22 HFF.out (sv_dok 64) (by decide)).mono ?_
        rintro e wq ⟨rfl, C22⟩
        clear T22
        refine hK.out _ _ (HCC.out _ C22) (fun hH1 => ?_)
        clear hK K hH
        try simp only [Act.put, List.setIfInBounds_toArray, List.set_cons_zero, List.set_cons_succ]
        refine wpAnyH_take (i := 3) (v := (.bool true)) (by simp only [List.getElem?_toArray, List.getElem?_cons_succ, List.getElem?_cons_zero]; rfl) (by kernel_rfl) (by kernel_rfl) (by kernel_rfl) (fun _ _ _ h => h) (Or.inl ⟨by rfl, ?_⟩) hH1 ?_
        · intro wz hSw
          clear hSw
          go_simp
        try simp only [Act.put, List.setIfInBounds_toArray, List.set_cons_zero, List.set_cons_succ]
        refine wpAnyH_take (i := 4) (v := (.bool true)) (by simp only [List.getElem?_toArray, List.getElem?_cons_succ, List.getElem?_cons_zero]; rfl) (by kernel_rfl) (by kernel_rfl) (by kernel_rfl) (fun _ _ _ h => h) (Or.inl ⟨by rfl, ?_⟩) hH1 ?_
        · intro wz hSw
          clear hSw
          go_simp
        try simp only [Act.put, List.setIfInBounds_toArray, List.set_cons_zero, List.set_cons_succ]
        refine wpAnyH_take (i := 5) (v := (.pointer (some ⟨m, 0, none⟩))) (by simp only [List.getElem?_toArray, List.getElem?_cons_succ, List.getElem?_cons_zero]; rfl) (by kernel_rfl) (by kernel_rfl) (by kernel_rfl) (fun _ _ _ h => h) (Or.inl ⟨by rfl, ?_⟩) hH1 ?_
        · intro wz hSw
          clear hSw
          go_simp
        try simp only [Act.put, List.setIfInBounds_toArray, List.set_cons_zero, List.set_cons_succ]
        refine wpAnyH_take (i := 7) (v := (.slice (some ⟨tg, 0, none⟩) i tc)) (by simp only [List.getElem?_toArray, List.getElem?_cons_succ, List.getElem?_cons_zero]; rfl) (by kernel_rfl) (by kernel_rfl) (by kernel_rfl) (fun _ _ _ h => h) (Or.inl ⟨by rfl, ?_⟩) hH1 ?_
        · intro wz hSw
          clear hSw
          go_simp
        try simp only [Act.put, List.setIfInBounds_toArray, List.set_cons_zero, List.set_cons_succ]
        refine wpAnyH_take (i := 8) (v := (.int .i64 kk)) (by simp only [List.getElem?_toArray, List.getElem?_cons_succ, List.getElem?_cons_zero]; rfl) (by kernel_rfl) (by kernel_rfl) (by kernel_rfl) (fun _ _ _ h => h) (Or.inl ⟨by rfl, ?_⟩) hH1 ?_
        · intro wz hSw
          clear hSw
          go_simp
        try simp only [Act.put, List.setIfInBounds_toArray, List.set_cons_zero, List.set_cons_succ]
        refine wpAnyH_take (i := 9) (v := (.pointer (some ⟨tg, kk, none⟩))) (by simp only [List.getElem?_toArray, List.getElem?_cons_succ, List.getElem?_cons_zero]; rfl) (by kernel_rfl) (by kernel_rfl) (by kernel_rfl) (fun _ _ _ h => h) (Or.inl ⟨by rfl, ?_⟩) hH1 ?_
        · intro wz hSw
          clear hSw
          go_simp
        try simp only [Act.put, List.setIfInBounds_toArray, List.set_cons_zero, List.set_cons_succ]
        refine wpAnyH_take (i := 10) (v := (.string sk)) (by simp only [List.getElem?_toArray, List.getElem?_cons_succ, List.getElem?_cons_zero]; rfl) (by kernel_rfl) (by kernel_rfl) (by kernel_rfl) (fun _ _ _ h => h) (Or.inl ⟨by rfl, ?_⟩) hH1 ?_
        · intro wz hSw
          obtain ⟨s0, s1⟩ := hSw
          go_simp
        try simp only [Act.put, List.setIfInBounds_toArray, List.set_cons_zero, List.set_cons_succ]
        refine wpAnyH_ready (rs := [6]) (by kernel_rfl) (by simp) ?_
        refine AllReadyH.cons (i := 6) (by simp only [List.getElem?_toArray, List.getElem?_cons_succ, List.getElem?_cons_zero]; rfl) (fun K hK => ?_) AllReadyH.nil
        go_simp
        refine (sv_slotC C22).mono ?_
        rintro e wt ⟨rfl, bt⟩
        have BT := HCB.out _ C22 _ bt
        have ST := HCD.out _ C22 _ bt
        clear bt C22
        refine hK.out _ _ (ST) (fun hH2 => ?_)
        clear hK K hH1
        try simp only [Act.put, List.setIfInBounds_toArray, List.set_cons_zero, List.set_cons_succ]
        refine wpAnyH_take (i := 11) (v := (.bool true)) (by simp only [List.getElem?_toArray, List.getElem?_cons_succ, List.getElem?_cons_zero]; rfl) (by kernel_rfl) (by kernel_rfl) (by kernel_rfl) (fun _ _ _ h => h) (Or.inl ⟨by rfl, ?_⟩) hH2 ?_
        · intro wz hSw
          clear hSw
          go_simp
        try simp only [Act.put, List.setIfInBounds_toArray, List.set_cons_zero, List.set_cons_succ]
        refine wpAnyH_take (i := 12) (v := (.bool true)) (by simp only [List.getElem?_toArray, List.getElem?_cons_succ, List.getElem?_cons_zero]; rfl) (by kernel_rfl) (by kernel_rfl) (by kernel_rfl) (fun _ _ _ h => h) (Or.inl ⟨by rfl, ?_⟩) hH2 ?_
        · intro wz hSw
          clear hSw
          go_simp
        try simp only [Act.put, List.setIfInBounds_toArray, List.set_cons_zero, List.set_cons_succ]
        refine wpAnyH_take (i := 13) (v := (.bool true)) (by simp only [List.getElem?_toArray, List.getElem?_cons_succ, List.getElem?_cons_zero]; rfl) (by kernel_rfl) (by kernel_rfl) (by kernel_rfl) (fun _ _ _ h => h) (Or.inl ⟨by rfl, ?_⟩) hH2 ?_
        · intro wz hSw
          clear hSw
          go_simp
        try simp only [Act.put, List.setIfInBounds_toArray, List.set_cons_zero, List.set_cons_succ]
        refine wpAnyH_done (by kernel_rfl) ?_ _
        refine NoPanic.normal ?_
        go_wp2
        go_ret
        exact ⟨rfl, BT⟩

end Go.Proofs.YtdokafldallnkaaGreat

/-
  What PoolRules keeps: the pool, the log and the disk as plain data.
  The walk of powered where a fall of the plan strikes.
  Crash of a disk that is dead.
  AppendLog and SyncLog where the plan's first fall is not due, and where it strikes.
  Write and Sync of a disk with a plan: where no fall is due, and where one strikes.
  disk.Plan of nothing and of one fall.
-/
import Derived.Test.YtgmfgkdecpldeaaGreatBase9C
import Derived.Test.YtgmfgkdecpldeaaGreatDiskPowerC
import Derived.Test.YtgmfgkdecpldeaaGreatBase5C
import Derived.Test.YtgmfgkdecpldeaaGreatDiskCallsC
import Derived.Test.YtgmfgkdecpldeaaGreatDiskLogC
import Derived.Test.YtgmfgkdecpldeaaGreatDiskSyncC
import Derived.Test.YtgmfgkdecpldeaaGreatDiskWriteC
import Derived.Deep.AppendLies
import Derived.Deep.RegionLaw
namespace Go.Proofs.YtgmfgkdecpldeaaGreat
open Go.RowKit Go.Sort Go.Shelf
set_option linter.unusedVariables false
set_option linter.unusedSimpArgs false

/-- Bytes that are blank, or the page n of a record that is flushed. -/
def PgOk (n fl : Nat) (s : ByteArray) : Prop := s = zerosS ∨ ∃ Y : SheetV, Y.Fits ∧ Y.num = n ∧ Y.lsn ≤ fl ∧ s = ⟨(encL Y).toArray⟩

theorem PgOk.mono {n a b : Nat} {s : ByteArray} (h : PgOk n a s) (k : a ≤ b) : PgOk n b s := by
  rcases h with h | ⟨Y, h1, h2, h3, h4⟩
  · exact .inl h
  · exact .inr ⟨Y, h1, h2, Nat.le_trans h3 k, h4⟩

theorem PgOk.dec {n fl : Nat} {s : ByteArray} (h : PgOk n fl s) : decE s = 0 ∧ ((decP s).num = n ∨ (decP s).num = 0) ∧ (decP s).lsn ≤ fl := by
  rcases h with rfl | ⟨Y, h1, h2, h3, rfl⟩
  · rw [dec_zeros.1, dec_zeros.2]
    exact ⟨rfl, .inr rfl, Nat.zero_le _⟩
  · rw [(dec_enc Y h1).1, (dec_enc Y h1).2]
    exact ⟨rfl, .inl h2, h3⟩

theorem PgOk.rd {n fl : Nat} {s : ByteArray} (h : PgOk n fl s) : rdB n s = true ∧ (rdP n s).lsn ≤ fl := by
  obtain ⟨h1, h2, h3⟩ := h.dec
  have hb : rdB n s = true := by unfold rdB; exact decide_eq_true ⟨h1, h2⟩
  refine ⟨hb, ?_⟩
  unfold rdP
  rw [if_pos hb]
  exact h3

theorem ch_ok {n fl : Nat} {s t : ByteArray} (hs : PgOk n fl s) (ht : PgOk n fl t) : chE n s t = 0 ∧ (chX n s t).lsn ≤ fl := by
  unfold chE chX
  rw [ht.rd.1]
  split
  · exact ⟨rfl, hs.rd.2⟩
  · exact ⟨rfl, ht.rd.2⟩

theorem check64 {n : Nat} (h1 : 1 ≤ n) (h2 : n ≤ 20) : checkE 64 n = 0 := by
  unfold checkE
  rw [if_neg (by omega), if_neg (by omega)]

structure RI (P : PG) (l : LG) (d : DG) (K : Nat) : Prop where
  most : P.most = 4
  pk : P.picks = []
  z : P.z ≤ 4
  wr : P.written ≤ K
  fe : P.fetched ≤ K
  pages : ∃ NL : List Nat, NL.Nodup ∧ NL.length = P.z ∧ ∀ n, n ∈ NL ↔ P.F n ≠ none
  frs : ∀ n f, P.F n = some f → 1 ≤ n ∧ n ≤ 20 ∧ f.sh.Fits ∧ f.sh.num = n ∧ f.sh.lsn ≤ l.bytes.length
  dok : DOk d (10 * K)
  room : d.room = 64
  lok : LOk l d
  kept : l.kept = 0
  len : l.bytes.length ≤ 100 * K
  st : l.starts.length ≤ K
  pg : ∀ n, 1 ≤ n → n ≤ 20 → PgOk n l.flushed (readD d n) ∧ PgOk n l.flushed (readD d (n + 2048))

theorem RI.fe_ok' {P : PG} {l : LG} {d : DG} {K : Nat} (h : RI P l d K) {n : Nat} (h1 : 1 ≤ n) (h2 : n ≤ 20) : feE d n = 0 ∧ (feX d n).lsn ≤ l.flushed := by
  have hc : checkE d.room n = 0 := by rw [h.room]; exact check64 h1 h2
  obtain ⟨p1, p2⟩ := h.pg n h1 h2
  unfold feE feX
  rw [if_pos hc, if_pos hc]
  exact ch_ok p1 p2

theorem encE_of {p : SheetV} (f : p.Fits) : encE p = 0 := by
  have := f.kind0; have := f.kind1; have := f.head; have := f.len; have := f.fits
  unfold encE
  rw [if_neg (by omega), if_neg (by omega)]

theorem encS_of {p : SheetV} (f : p.Fits) : encS p = ⟨(encL p).toArray⟩ := by unfold encS; rw [if_pos (encE_of f)]

theorem flL_le {l : LG} {d : DG} (h : LOk l d) {up : Nat} (hu : up ≤ l.bytes.length) : up ≤ (flL l up).flushed ∧ l.flushed ≤ (flL l up).flushed := by
  have := h.fl
  unfold flL
  split
  · exact ⟨hu, h.fl⟩
  · rename_i hb
    unfold flB at hb
    have hb' : ¬ (l.flushed < l.bytes.length ∧ l.flushed + 1 ≤ up) := by simpa using hb
    exact ⟨by omega, Nat.le_refl _⟩

/-- A page was written out. -/
theorem RI.out {P : PG} {l : LG} {d : DG} {K : Nat} (h : RI P l d K) (hK : K ≤ 1000) {n : Nat} {f : FrV} (hf : P.F n = some f) :
    DOk (outD l d f.sh) (10 * (K + 1)) ∧ (outD l d f.sh).room = 64 ∧ LOk (flL l f.sh.lsn) (outD l d f.sh) ∧ (flL l f.sh.lsn).kept = 0 ∧ (flL l f.sh.lsn).bytes = l.bytes ∧ (flL l f.sh.lsn).starts = l.starts ∧
      ∀ m, 1 ≤ m → m ≤ 20 → PgOk m (flL l f.sh.lsn).flushed (readD (outD l d f.sh) m) ∧ PgOk m (flL l f.sh.lsn).flushed (readD (outD l d f.sh) (m + 2048)) := by
  obtain ⟨h1, h2, hF, hn, hlsn⟩ := h.frs n f hf
  have hlo := h.lok
  obtain ⟨d1, r1, rm1⟩ := h.dok.fl hlo f.sh.lsn
  obtain ⟨or1, or2⟩ := ord_range (d := d) (n := f.sh.num) (by omega) (by omega)
  have h512 : (encS f.sh).size = 512 := by rw [encS_of hF]; exact enc_size f.sh hF
  obtain ⟨d2, r2⟩ := d1.ws (by omega) or1.1 h512
  obtain ⟨d3, r3⟩ := d2.ws (by omega) or2.1 h512
  have hO : (ord1 d f.sh.num = n ∧ ord2 d f.sh.num = n + 2048) ∨ (ord1 d f.sh.num = n + 2048 ∧ ord2 d f.sh.num = n) := by
    unfold ord1 ord2
    rw [hn]
    split
    · exact .inl ⟨rfl, rfl⟩
    · exact .inr ⟨rfl, rfl⟩
  obtain ⟨fl1, fl2⟩ := flL_le hlo hlsn
  have hlf := hlo.fl' f.sh.lsn
  have hread : ∀ r, readD (outD l d f.sh) r = if r = ord2 d f.sh.num then encS f.sh else if r = ord1 d f.sh.num then encS f.sh else readD d r := fun r => by
    have e := r3 r
    rw [r2 r, r1 r] at e
    exact e
  refine ⟨d3.mono (by omega), rm1.trans h.room, ⟨hlf.half, hlf.fl, hlf.most, hlf.at'⟩, ?_, ?_, ?_, fun m m1 m2 => ?_⟩
  · unfold flL
    split <;> exact h.kept
  · unfold flL
    split <;> rfl
  · unfold flL
    split <;> rfl
  · by_cases e : m = n
    · have hY : PgOk m (flL l f.sh.lsn).flushed (encS f.sh) := .inr ⟨f.sh, hF, by omega, fl1, encS_of hF⟩
      rw [hread, hread]
      rcases hO with ⟨a, b⟩ | ⟨a, b⟩
      · rw [a, b, if_neg (by omega), if_pos e, if_pos (by omega)]
        exact ⟨hY, hY⟩
      · rw [a, b, if_pos e, if_neg (by omega), if_pos (by omega)]
        exact ⟨hY, hY⟩
    · obtain ⟨p1, p2⟩ := h.pg m m1 m2
      rw [hread, hread]
      rcases hO with ⟨a, b⟩ | ⟨a, b⟩
      · rw [a, b, if_neg (by omega), if_neg (by omega), if_neg (by omega), if_neg (by omega)]
        exact ⟨p1.mono fl2, p2.mono fl2⟩
      · rw [a, b, if_neg (by omega), if_neg (by omega), if_neg (by omega), if_neg (by omega)]
        exact ⟨p1.mono fl2, p2.mono fl2⟩

theorem RI.step {P P' : PG} {l l' : LG} {d d' : DG} {K : Nat} (h : RI P l d K) (e1 : P'.most = P.most) (e2 : P'.picks = P.picks) (e3 : P'.z ≤ 4) (e4 : P'.written ≤ K + 1) (e5 : P'.fetched ≤ K + 1) (e6 : ∃ NL : List Nat, NL.Nodup ∧ NL.length = P'.z ∧ ∀ n, n ∈ NL ↔ P'.F n ≠ none)
    (e7 : ∀ n f, P'.F n = some f → 1 ≤ n ∧ n ≤ 20 ∧ f.sh.Fits ∧ f.sh.num = n ∧ f.sh.lsn ≤ l'.bytes.length) (e8 : DOk d' (10 * (K + 1))) (e9 : d'.room = 64) (e10 : LOk l' d') (e11 : l'.kept = 0) (e12 : l'.bytes.length ≤ 100 * (K + 1)) (e13 : l'.starts.length ≤ K + 1)
    (e14 : ∀ n, 1 ≤ n → n ≤ 20 → PgOk n l'.flushed (readD d' n) ∧ PgOk n l'.flushed (readD d' (n + 2048))) : RI P' l' d' (K + 1) :=
  ⟨e1.trans h.most, e2.trans h.pk, e3, e4, e5, e6, e7, e8, e9, e10, e11, e12, e13, e14⟩

/-- The pages of a pool whose frame is written again. -/
theorem pages_set {F : Nat → Option FrV} {z : Nat} (h : ∃ NL : List Nat, NL.Nodup ∧ NL.length = z ∧ ∀ n, n ∈ NL ↔ F n ≠ none) (n : Nat) (f : FrV) : ∃ NL : List Nat, NL.Nodup ∧ NL.length = (if (F n).isSome = true then z else z + 1) ∧ ∀ m, m ∈ NL ↔ setFr F n f m ≠ none := by
  obtain ⟨NL, h1, h2, h3⟩ := h
  by_cases hn : F n = none
  · refine ⟨n :: NL, List.nodup_cons.2 ⟨fun x => (h3 n).1 x hn, h1⟩, by rw [hn]; simp [h2], fun m => ?_⟩
    unfold setFr
    by_cases e : m = n
    · simp [e]
    · simp [e, h3]
  · refine ⟨NL, h1, ?_, fun m => ?_⟩
    · rw [if_pos (by cases hh : F n with | none => exact absurd hh hn | some g => rfl)]
      exact h2
    · unfold setFr
      by_cases e : m = n
      · subst e
        simp [(h3 m).2 hn]
      · simp [e, h3]

theorem pages_del {F : Nat → Option FrV} {z : Nat} (h : ∃ NL : List Nat, NL.Nodup ∧ NL.length = z ∧ ∀ n, n ∈ NL ↔ F n ≠ none) {n : Nat} (hn : F n ≠ none) : ∃ NL : List Nat, NL.Nodup ∧ NL.length = z - 1 ∧ ∀ m, m ∈ NL ↔ delFr F n m ≠ none := by
  obtain ⟨NL, h1, h2, h3⟩ := h
  refine ⟨NL.erase n, h1.erase n, by rw [List.length_erase_of_mem ((h3 n).2 hn), h2], fun m => ?_⟩
  rw [h1.mem_erase_iff]
  unfold delFr
  by_cases e : m = n
  · simp [e]
  · simp [e, h3]

theorem setFr_frs {F : Nat → Option FrV} {n : Nat} {g : FrV} {q : Nat} {f : FrV} (h : setFr F n g q = some f) : (q = n ∧ f = g) ∨ F q = some f := by
  unfold setFr at h
  split at h
  · rename_i e
    exact .inl ⟨e, (Option.some.inj h).symm⟩
  · exact .inr h

theorem delFr_frs {F : Nat → Option FrV} {n q : Nat} {f : FrV} (h : delFr F n q = some f) : F q = some f := by
  unfold delFr at h
  split at h
  · cases h
  · exact h

theorem RI.dmono {P : PG} {l : LG} {d : DG} {K : Nat} (h : RI P l d K) : DOk d (10 * (K + 1)) := h.dok.mono (by omega)

/-- Write of a page that is here. -/
theorem RI.write {P : PG} {l : LG} {d : DG} {K : Nat} (h : RI P l d K) (hK : K ≤ 1000) {n : Nat} {f : FrV} (hf : P.F n = some f) :
    RI { P with F := setFr P.F n ⟨f.sh, 0⟩, written := if f.since = 0 then P.written else P.written + 1 } (evL l f) (evD l d f) (K + 1) := by
  have h1 := h.wr
  have h2 := h.fe
  have h3 := h.len
  have h4 := h.st
  have hp := pages_set h.pages n ⟨f.sh, 0⟩
  rw [hf] at hp
  have hfr : ∀ q g, setFr P.F n ⟨f.sh, 0⟩ q = some g → 1 ≤ q ∧ q ≤ 20 ∧ g.sh.Fits ∧ g.sh.num = q ∧ g.sh.lsn ≤ l.bytes.length := fun q g hg => by
    rcases setFr_frs hg with ⟨rfl, rfl⟩ | hq
    · exact h.frs q f hf
    · exact h.frs q g hq
  unfold evL evD
  by_cases hs : f.since = 0
  · rw [if_pos hs, if_pos hs, if_pos hs]
    exact h.step rfl rfl h.z (by show P.written ≤ _; omega) (by show P.fetched ≤ _; omega) hp hfr h.dmono h.room h.lok h.kept (by omega) (by omega) h.pg
  · rw [if_neg hs, if_neg hs, if_neg hs]
    obtain ⟨o1, o2, o3, o4, o5, o6, o7⟩ := h.out hK hf
    exact h.step rfl rfl h.z (by show P.written + 1 ≤ _; omega) (by show P.fetched ≤ _; omega) hp (by rw [o5]; exact hfr) o1 o2 o3 o4 (by rw [o5]; omega) (by rw [o6]; omega) o7

/-- A page leaves. -/
theorem RI.evict {P : PG} {l : LG} {d : DG} {K : Nat} (h : RI P l d K) (hK : K ≤ 1000) {n : Nat} {f : FrV} (hf : P.F n = some f) : RI (evP P n f) (evL l f) (evD l d f) (K + 1) := by
  have h1 := h.wr
  have h2 := h.fe
  have h3 := h.len
  have h4 := h.st
  have hz := h.z
  have hp := pages_del h.pages (n := n) (by rw [hf]; simp)
  have hfr : ∀ q g, delFr P.F n q = some g → 1 ≤ q ∧ q ≤ 20 ∧ g.sh.Fits ∧ g.sh.num = q ∧ g.sh.lsn ≤ l.bytes.length := fun q g hg => h.frs q g (delFr_frs hg)
  unfold evL evD evP
  by_cases hs : f.since = 0
  · rw [if_pos hs, if_pos hs, if_pos hs]
    exact h.step rfl rfl (by show P.z - 1 ≤ 4; omega) (by show P.written ≤ _; omega) (by show P.fetched ≤ _; omega) hp hfr h.dmono h.room h.lok h.kept (by omega) (by omega) h.pg
  · rw [if_neg hs, if_neg hs, if_neg hs]
    obtain ⟨o1, o2, o3, o4, o5, o6, o7⟩ := h.out hK hf
    exact h.step rfl rfl (by show P.z - 1 ≤ 4; omega) (by show P.written + 1 ≤ _; omega) (by show P.fetched ≤ _; omega) hp (by rw [o5]; exact hfr) o1 o2 o3 o4 (by rw [o5]; omega) (by rw [o6]; omega) o7

theorem RI.more {P : PG} {l : LG} {d : DG} {K : Nat} (h : RI P l d K) : RI P l d (K + 1) := by
  have h1 := h.wr
  have h2 := h.fe
  have h3 := h.len
  have h4 := h.st
  exact h.step rfl rfl h.z (by omega) (by omega) h.pages h.frs h.dmono h.room h.lok h.kept (by omega) (by omega) h.pg

theorem least_of (NL : List Nat) (h : NL ≠ []) : ∃ n ∈ NL, ∀ m ∈ NL, n ≤ m := by
  induction NL with
  | nil => exact absurd rfl h
  | cons a L ih =>
    by_cases hL : L = []
    · subst hL
      exact ⟨a, by simp, fun m hm => by simp at hm; omega⟩
    · obtain ⟨n, h1, h2⟩ := ih hL
      by_cases e : a ≤ n
      · exact ⟨a, by simp, fun m hm => by
          rcases List.mem_cons.1 hm with x | x
          · omega
          · have := h2 m x; omega⟩
      · exact ⟨n, by simp [h1], fun m hm => by
          rcases List.mem_cons.1 hm with x | x
          · omega
          · exact h2 m x⟩

/-- There is room, or room is made. -/
theorem RI.roomed {P : PG} {l : LG} {d : DG} {K : Nat} (h : RI P l d K) (hK : K ≤ 1000) :
    ∃ P1 l1 d1, (∀ p, RoomTo p P l d P1 l1 d1) ∧ RI P1 l1 d1 (K + 1) ∧ P1.z ≤ 3 ∧ (∀ m, P.F m = none → P1.F m = none) ∧ l1.bytes = l.bytes ∧ P1.dp = P.dp ∧ P1.lp = P.lp := by
  have hz := h.z
  have hm := h.most
  by_cases hz4 : P.z < 4
  · exact ⟨P, l, d, fun p => room_roomy (by omega) (by omega), h.more, by omega, fun m e => e, rfl, rfl, rfl⟩
  · obtain ⟨NL, n1, n2, n3⟩ := h.pages
    obtain ⟨n, hn, hle⟩ := least_of NL (by intro e; rw [e] at n2; simp at n2; omega)
    have hne := (n3 n).1 hn
    obtain ⟨f, hf⟩ : ∃ f, P.F n = some f := by
      cases e : P.F n with
      | none => exact absurd e hne
      | some f => exact ⟨f, rfl⟩
    obtain ⟨f1, f2, _⟩ := h.frs n f hf
    have hv : IsVic P n := ⟨f1, by omega, hne, fun m _ hmm => hle m ((n3 m).2 hmm)⟩
    have hwr := h.wr
    refine ⟨evP P n f, evL l f, evD l d f, fun p => room_full h.dok (by omega) h.lok (by omega) (by omega) h.pk (by omega) hv hf (by rw [h.room]; exact check64 f1 f2), h.evict hK hf, by show P.z - 1 ≤ 3; omega, fun m e => ?_, ?_, rfl, rfl⟩
    · show delFr P.F n m = none
      unfold delFr
      split
      · rfl
      · exact e
    · unfold evL
      split
      · rfl
      · unfold flL
        split <;> rfl

theorem RI.put {P : PG} {l : LG} {d : DG} {K : Nat} (h : RI P l d K) (X : SheetV) (hF : X.Fits) (h1 : 1 ≤ X.num) (h2 : X.num ≤ 20) (hl : X.lsn ≤ l.bytes.length) (hz : P.F X.num ≠ none ∨ P.z ≤ 3) : RI (putP P X) l d (K + 1) := by
  have a1 := h.wr
  have a2 := h.fe
  have a3 := h.len
  have a4 := h.st
  have a5 := h.z
  refine h.step rfl rfl ?_ (by show P.written ≤ _; omega) (by show P.fetched ≤ _; omega) (pages_set h.pages X.num _) (fun q g hg => ?_) h.dmono h.room h.lok h.kept (by omega) (by omega) h.pg
  · show (if (P.F X.num).isSome = true then P.z else P.z + 1) ≤ 4
    split
    · exact a5
    · rename_i hs
      rcases hz with hz | hz
      · exfalso
        cases e : P.F X.num with
        | none => exact hz e
        | some f => rw [e] at hs; simp at hs
      · omega
  · rcases setFr_frs hg with ⟨rfl, rfl⟩ | hq
    · exact ⟨h1, h2, hF, rfl, hl⟩
    · exact h.frs q g hq

theorem RI.get {P : PG} {l : LG} {d : DG} {K : Nat} (h : RI P l d K) (X : SheetV) (hF : X.Fits) (h1 : 1 ≤ X.num) (h2 : X.num ≤ 20) (hl : X.lsn ≤ l.bytes.length) (hn : P.F X.num = none) (hz : P.z ≤ 3) : RI (getP P X) l d (K + 1) := by
  have a1 := h.wr
  have a2 := h.fe
  have a3 := h.len
  have a4 := h.st
  have hp := pages_set h.pages X.num ⟨X, 0⟩
  rw [hn] at hp
  refine h.step rfl rfl (by show P.z + 1 ≤ 4; omega) (by show P.written ≤ _; omega) (by show P.fetched + 1 ≤ _; omega) hp (fun q g hg => ?_) h.dmono h.room h.lok h.kept (by omega) (by omega) h.pg
  rcases setFr_frs hg with ⟨rfl, rfl⟩ | hq
  · exact ⟨h1, h2, hF, rfl, hl⟩
  · exact h.frs q g hq

def recT : ByteArray := ⟨#[114, 101, 99, 111, 114, 100]⟩

theorem putG_len (l : LG) : (putG l recT).bytes.length = l.bytes.length + 18 := by
  show (l.bytes ++ frameL (l.bytes.length + 1) recT.data.toList).length = _
  rw [List.length_append]
  have : (frameL (l.bytes.length + 1) recT.data.toList).length = 18 := by rw [frameL_length]; rfl
  omega

theorem RI.append {P : PG} {l : LG} {d : DG} {K : Nat} (h : RI P l d K) (hK : K ≤ 1000) : RI P (putG l recT) d (K + 1) := by
  have a1 := h.wr
  have a2 := h.fe
  have a3 := h.len
  have a4 := h.st
  have a5 := putG_len l
  have a6 := h.lok.fl
  refine h.step rfl rfl h.z (by omega) (by omega) h.pages (fun n f hf => ?_) h.dmono h.room ⟨h.lok.half, by show l.flushed ≤ _; omega, by omega, h.lok.at'⟩ h.kept (by omega) ?_ h.pg
  · obtain ⟨f1, f2, f3, f4, f5⟩ := h.frs n f hf
    exact ⟨f1, f2, f3, f4, by omega⟩
  · show (l.starts ++ [l.bytes.length + 1]).length ≤ _
    simp
    omega

end Go.Proofs.YtgmfgkdecpldeaaGreat

namespace Go.Proofs.YtgmfgkdecpldeaaGreat
open Go.RowKit
set_option linter.unusedVariables false

theorem infoFall : (Tryz.prog.info? 38).map (·.size) = some 5 := by kernel_rfl

section
variable {w : World} {p : Nat} {m : Mem} {d : DG}

theorem planned (h : DiskAt w p m d) {v : Value} {r : List FG} (hv : IsFalls w v r) (hb : ∀ k, v.ownBlock = some k → m.planV.ownBlock = some k) : DiskAt (w.setCell ⟨p, 3, none⟩ v) p { m with planV := v } { d with plan := r } := by
  have h3 := h.set 3 v
  have hP := h3.2
  refine ⟨?_, ⟨?_, hP.sure, hP.fresh, hP.ne, hP.loose, hP.log⟩⟩
  · have e : dvals { m with planV := v } { d with plan := r } = (dvals m d).setIfInBounds 3 v := by
      unfold dvals
      simp
    rw [e]
    exact h3.1
  · exact hv.same fun g hg => heap_set _ _ _ _ (h.off (.inr (.inr (.inr (.inr (hb g hg))))))

/-- The plan without its first fall. -/
theorem IsFalls.tail1 {g o : Nat} {f : FG} {r : List FG} (h : IsFalls w (.slice (some ⟨g, o, none⟩) (r.length + 1) 1) (f :: r)) : IsFalls w (.slice (some ⟨g, o, none⟩) r.length 0) r := by
  rcases h with ⟨_, e⟩ | ⟨g', o', cap', cur, e, h1, h2, hb, hk⟩
  · cases e
  · simp only [List.length_cons, Value.slice.injEq, Option.some.injEq, Addr.mk.injEq, and_true, true_and] at e
    obtain ⟨⟨rfl, rfl⟩, rfl⟩ := e
    simp only [List.length_cons] at h1
    have hr : r = [] := List.eq_nil_of_length_eq_zero (by omega)
    subst hr
    exact .inr ⟨g, o, 0, cur, rfl, by simp, by unfold maxLen; omega, hb, fun k u hku => by simp at hku⟩

set_option maxHeartbeats 1600000 in
set_option maxRecDepth 8000 in
theorem powered_falls (hD : DiskAt w p m d) (hok : d.ok) {f : FG} {r : List FG} (hl : d.plan = f :: r) (he : f.call = d.calls) (hf : f.keep < 18446744073709551616) :
    Calls Tryz.prog 69 #[.pointer (some ⟨p, 0, none⟩)] w fun e w' => e = .returned (.bool false) ∧
      (∃ m', DiskAt w' p m' (failD f { d with plan := r }) ∧ ∀ k, m'.rest k → m.rest k ∨ w.heap.size ≤ k) ∧ Kept (fun k => k = p ∨ k = m.sure) w w' := by
  have c2 := hD.blk.cells.c2
  have f3 := hD.blk.cells.fr 3
  have c3 := hD.blk.cells.c3
  obtain ⟨g, o, cap, hv, hcap, hcm, hlg, hcell⟩ : ∃ g o cap, m.planV = .slice (some ⟨g, o, none⟩) (r.length + 1) cap ∧ r.length + 1 ≤ cap ∧ cap ≤ maxLen ∧ g < w.heap.size ∧ (∀ k u, (fcells f)[k]? = some u → w.cell? ⟨g, o + k, none⟩ = some u) := by
    rcases hD.parts.plan with ⟨_, e⟩ | ⟨g, o, cap, cur, e, h1, h2, hb, hk⟩
    · rw [hl] at e; cases e
    · rw [hl] at e h1 hk
      refine ⟨g, o, cap, e, h1, h2, hb.lt, fun k u hku => hk k u ?_⟩
      simp only [List.flatMap_cons]
      rw [List.getElem?_append_left (List.getElem?_eq_some_iff.1 hku).1]
      exact hku
  have k0 := hcell 0 _ rfl
  have k1 := hcell 1 _ rfl
  have k2 := hcell 2 _ rfl
  have k3 := hcell 3 _ rfl
  have k4 := hcell 4 _ rfl
  rw [Nat.add_zero] at k0
  rw [hv] at c3
  unfold maxLen at hcm
  have HD : Hid (DiskAt w p m d ∧ d.ok ∧ d.plan = f :: r ∧ m.planV = .slice (some ⟨g, o, none⟩) (r.length + 1) cap) := ⟨hD, hok, hl, hv⟩
  have hlt := hD.lt
  clear hD hl hv hcell hok
  obtain ⟨f1, f2, f3', f4, f5⟩ := f
  simp only at he hf
  subst he
  have hg : (0 : Int) < ((r.length + 1 : Nat) : Int) := by omega
  have hg' : (0 : Int) < (r.length : Int) + 1 := by omega
  go_enter Tryz.func69, Tryz.ntmps69
  go_wp2
  go_quiet (fail)
  go_upto_region 2 with fail
  obtain ⟨w1, hw1⟩ : ∃ w1, w1 = w.drewN nq := ⟨_, rfl⟩
  rw [← hw1]
  have c3 : w1.cell? ⟨p, 3, none⟩ = some (Value.slice (some ⟨g, o, none⟩) (r.length + 1) cap) := by rw [hw1]; exact c3
  have f3 : w1.frozen? ⟨p, 3, none⟩ = false := by rw [hw1]; exact f3
  have k0 : w1.cell? ⟨g, o, none⟩ = some (.int .i64 d.calls) := by rw [hw1]; exact k0
  have k1 : w1.cell? ⟨g, o + 1, none⟩ = some (.int .u64 f2) := by rw [hw1]; exact k1
  have k2 : w1.cell? ⟨g, o + 2, none⟩ = some (.int .i64 f3') := by rw [hw1]; exact k2
  have k3 : w1.cell? ⟨g, o + 3, none⟩ = some (.int .i64 f4) := by rw [hw1]; exact k3
  have k4 : w1.cell? ⟨g, o + 4, none⟩ = some (.int .i64 f5) := by rw [hw1]; exact k4
  have hlt : p < w1.heap.size := by rw [hw1]; exact hlt
  have hlg : g < w1.heap.size := by rw [hw1]; exact hlg
  have HW1 : Hid (w1 = w.drewN nq) := hw1
  clear hw1
  have hlt1 : ¬ (r.length + 1 < 1) := by omega
  have HFIN : Hid (∀ v, IsFalls w v r → (∀ k, v.ownBlock = some k → k = g) → ∀ W, W = (w1.setCell ⟨p, 3, none⟩ v).alloc (.cells #[.int .i64 d.calls, .int .u64 f2, .int .i64 f3', .int .i64 f4, .int .i64 f5] 38) →
      Calls Tryz.prog 52 #[.pointer (some ⟨p, 0, none⟩), .agg #[.int .i64 d.calls, .int .u64 f2, .int .i64 f3', .int .i64 f4, .int .i64 f5]] W fun e w' => e = .returned (.tuple #[]) ∧
      (∃ m', DiskAt w' p m' (failD ⟨d.calls, f2, f3', f4, f5⟩ { d with plan := r }) ∧ ∀ k, m'.rest k → m.rest k ∨ w.heap.size ≤ k) ∧ Kept (fun k => k = p ∨ k = m.sure) w w') := by
    rintro v hv hvb W rfl
    obtain ⟨hD, hok, hl, hmv⟩ := HD.out
    have hP0 : m.planV.ownBlock = some g := by rw [hmv]; rfl
    have hD1 : DiskAt w1 p m d := by rw [HW1.out]; exact hD.below (below_drewN' w nq)
    have hv1 : IsFalls w1 v r := by rw [HW1.out]; exact hv
    have hD2 := planned hD1 hv1 (fun k hk => by rw [hvb k hk]; exact hP0)
    have hsz : w1.heap.size = w.heap.size := by rw [HW1.out]; rfl
    have hD3 := hD2.below ((Below.refl _ _).alloc (Nat.le_refl _) (.cells #[.int .i64 d.calls, .int .u64 f2, .int .i64 f3', .int .i64 f4, .int .i64 f5] 38))
    have hok3 : ({ d with plan := r } : DG).ok := ⟨hok.loose, hok.sure, hok.n, hok.log, hok.sl⟩
    refine (dfail_any hD3 hok3 ⟨d.calls, f2, f3', f4, f5⟩ hf).mono ?_
    rintro e w' ⟨rfl, ⟨m', hm', hr'⟩, hk'⟩
    refine ⟨rfl, ⟨m', hm', fun k hk => ?_⟩, ?_⟩
    · rcases hr' k hk with (x | x | x | x | x) | x
      · exact .inl (.inl x)
      · exact .inl (.inr (.inl x))
      · exact .inl (.inr (.inr (.inl x)))
      · exact .inl (.inr (.inr (.inr (.inl x))))
      · exact .inl (.inr (.inr (.inr (.inr (by rw [hvb k x]; exact hP0)))))
      · exact .inr (by simp only [World.alloc, World.setCell, Array.size_push, Array.size_modify] at x; omega)
    · have k1 : Kept (fun k => k = p ∨ k = m.sure) w w1 := by rw [HW1.out]; exact (Kept.refl _ _).drewN _
      exact ((k1.trans (Kept.setCell _ _ _ _ _ (.inl rfl))).trans (Kept.alloc _ _ _)).trans hk'
  have HIS : Hid (IsFalls w (.slice (some ⟨g, o, none⟩) (r.length + 1) cap) (⟨d.calls, f2, f3', f4, f5⟩ :: r)) := by
    obtain ⟨hD, hok, hl, hmv⟩ := HD.out
    have := hD.parts.plan
    rw [hmv, hl] at this
    exact this
  by_cases hc1 : cap = 1
  · subst hc1
    go_wp2_with fail
    refine (HFIN.out _ HIS.out.tail1 (fun k hk => by simp only [Value.ownBlock, Option.some.injEq] at hk; exact hk.symm) _ (by rw [show r.length = 0 by omega])).mono ?_
    rintro e w' ⟨rfl, hX⟩
    go_wp2
    go_ret
    exact ⟨rfl, hX⟩
  · go_wp2_with fail
    refine (HFIN.out _ HIS.out.tail (fun k hk => by simp only [Value.ownBlock, Option.some.injEq] at hk; exact hk.symm) _ rfl).mono ?_
    rintro e w' ⟨rfl, hX⟩
    go_wp2
    go_ret
    exact ⟨rfl, hX⟩

end

end Go.Proofs.YtgmfgkdecpldeaaGreat

namespace Go.Proofs.YtgmfgkdecpldeaaGreat
open Go.RowKit
set_option linter.unusedVariables false

set_option maxHeartbeats 400000 in
theorem crash_deadF {W : World} {p : Nat} {D : Nat → Prop} {d : DG} (h : IsDisk W p D d) (hd : d.dead = true) (f : FG) :
    Calls Tryz.prog 17 #[.pointer (some ⟨p, 0, none⟩), .agg (fcells f).toArray] W fun x w' => x = .returned (.tuple #[]) ∧ Below W.heap.size W w' := by
  have hB : Below W.heap.size W (W.alloc (.cells (fcells f).toArray 38)) := (Below.refl _ _).alloc (Nat.le_refl _) _
  have HI : Hid (IsDisk (W.alloc (.cells (fcells f).toArray 38)) p D d) := h.below hB
  have HB : Hid (Below W.heap.size W (W.alloc (.cells (fcells f).toArray 38))) := hB
  unfold fcells at HI HB ⊢
  clear h hB
  go_enter Tryz.func17, Tryz.ntmps17
  go_wp2_with fail
  refine (dead_out HI.out).mono ?_
  rintro x w1 ⟨rfl, rfl⟩
  rw [hd]
  go_wp2
  refine bodyPost_ret (results_none rfl _ _ _) rfl ?_
  exact ⟨rfl, HB.out⟩

end Go.Proofs.YtgmfgkdecpldeaaGreat

namespace Go.Proofs.YtgmfgkdecpldeaaGreat
open Go.RowKit
set_option linter.unusedVariables false

/-- No fall of the plan strikes at this call. -/
def NotDue (d : DG) : Prop := d.plan = [] ∨ ∃ f r, d.plan = f :: r ∧ f.call ≠ d.calls

theorem powered_yes {w : World} {p : Nat} {m : Mem} {d : DG} (hD : DiskAt w p m d) (hl : NotDue d) (hc : d.calls ≤ 1000000) :
    Calls Tryz.prog 69 #[.pointer (some ⟨p, 0, none⟩)] w fun e w' => e = .returned (.bool true) ∧
      DiskAt w' p m { d with calls := d.calls + 1 } ∧ Kept (fun k => k = p) w w' := by
  rcases hl with hl | ⟨f, r, hl, hne⟩
  · exact powered_none hD hl hc
  · exact powered_other hD hl hne hc

section
variable {w : World} {p : Nat} {S : Nat → Prop} {d : DG}

set_option maxHeartbeats 1600000 in
set_option maxRecDepth 8000 in
theorem appendLog_yes (h : IsDisk w p S d) (hd : d.dead = false) (hl : NotDue d) (hn : d.calls ≤ 1000000) (s : ByteArray) (hs : d.log.length + s.size ≤ 4194304) :
    Calls Tryz.prog 113 #[.pointer (some ⟨p, 0, none⟩), .string s] w fun x w' => x = .returned (.int .i64 0) ∧ ∃ S', IsDisk w' p S' (putD d s) ∧ Moves S S' w w' := by
  obtain ⟨m, hD, hS, _⟩ := h
  obtain ⟨a, c, hv⟩ : ∃ a c, m.logV = .slice a d.log.length c := by
    rcases hD.parts.log.2 with ⟨e1, e2⟩ | ⟨g', cap', cur', e1, _⟩
    · exact ⟨none, 0, by rw [e1, e2]⟩
    · exact ⟨_, _, e1⟩
  have c9 := hD.blk.cells.c9
  rw [hv] at c9
  have HD : Hid (DiskAt w p m d) := hD
  have HS : Hid (∀ k, m.has p k → S k) := hS
  clear hD hS
  have hs' : (s.size : Int) ≤ 4194304 - (d.log.length : Int) := by omega
  go_enter Tryz.func113, Tryz.ntmps113
  go_wp2_with fail
  refine (dead_any HD.out.blk.cells).mono ?_
  rintro x w1 ⟨rfl, rfl⟩
  rw [hd]
  go_wp2_with fail
  refine (powered_yes HD.out hl hn).mono ?_
  rintro x w2 ⟨rfl, hD1, hK1⟩
  have HD1 : Hid (DiskAt w2 p m { d with calls := d.calls + 1 }) := hD1
  have HK1 : Hid (Kept (fun k => k = p) _ w2) := hK1
  clear hD1 hK1 c9
  have c9 := HD1.out.blk.cells.c9
  have hlt := HD1.out.lt
  have hown := HD1.out.parts.log
  rw [hv] at c9 hown
  go_wp2_with (at_builtin; refine wpList_text_at _ rfl _ _ rfl (.slice a d.log.length c) d.log.length (dcellsOf d.log) rfl hown s rfl (by omega) ?_)
  intro v' w3 hown' hgrow hloc
  obtain ⟨a', c', hv'⟩ : ∃ a' c', v' = .slice a' (d.log.length + s.size) c' := by
    rcases hown'.2 with ⟨e1, e2⟩ | ⟨g, cap, cur, e1, _⟩
    · exact ⟨none, 0, by rw [e1, e2]⟩
    · exact ⟨_, _, e1⟩
  rw [← hv] at hgrow hloc
  have hown2 : w3.ownsRow 0 5 1 v' (d.log ++ s.data.toList).length (dcellsOf (d.log ++ s.data.toList)) := by
    have e : (d.log ++ s.data.toList).length = d.log.length + s.size := by simp
    rw [e]
    rw [dstrCells_eq] at hown'
    have e2 : dcellsOf (d.log ++ s.data.toList) = dcellsOf d.log ++ dcellsOf s.data.toList := by simp [dcellsOf]
    rw [e2]
    exact hown'
  obtain ⟨hb3, hD3, hK3⟩ := logged HD1.out hown2 hgrow hloc
  have hpb : m.logV.ownBlock ≠ some p := fun e => HD1.out.off (.inr (.inr (.inr (.inl e)))) rfl
  have c9' : w3.cell? ⟨p, 9, none⟩ = some m.logV := (World.cell?_of_block (w := w2) (a := ⟨p, 9, none⟩) (hb3 p hlt hpb)).trans HD1.out.blk.cells.c9
  have f9' : w3.frozen? ⟨p, 9, none⟩ = false := (World.frozen?_of_block (w := w2) (a := ⟨p, 9, none⟩) (hb3 p hlt hpb)).trans (HD1.out.blk.cells.fr 9)
  have HD3 : Hid (DiskAt (w3.setCell ⟨p, 9, none⟩ v') p { m with logV := v' } (putD d s)) := hD3
  have HK3 : Hid (Kept (m.has p) w2 (w3.setCell ⟨p, 9, none⟩ v')) := hK3
  have HR : Hid (∀ k, v'.ownBlock = some k → m.logV.ownBlock = some k ∨ w2.heap.size ≤ k) := hloc
  clear hb3 hD3 hK3 hown2 hown' hown hgrow hloc c9 hpb
  subst hv'
  go_wp2
  go_ret
  refine ⟨rfl, ?_⟩
  refine moved HD.out HS.out HD3.out ?_ ((HK1.out.mono fun k e => .inl e).trans HK3.out) fun k x => x
  have hz := HK1.out.size
  rintro k (x | x | x | x | x)
  · exact .inl (.inl x)
  · exact .inl (.inr (.inl x))
  · exact .inl (.inr (.inr (.inl x)))
  · rcases HR.out k x with y | y
    · exact .inl (.inr (.inr (.inr (.inl y))))
    · exact .inr (by omega)
  · exact .inl (.inr (.inr (.inr (.inr x))))

set_option maxHeartbeats 1600000 in
set_option maxRecDepth 8000 in
theorem syncLog_yes (h : IsDisk w p S d) (hd : d.dead = false) (hl : NotDue d) (hn : d.calls ≤ 1000000) (hll : d.log.length ≤ 1000000000) :
    Calls Tryz.prog 56 #[.pointer (some ⟨p, 0, none⟩)] w fun x w' => x = .returned (.int .i64 0) ∧ ∃ S', IsDisk w' p S' { d with calls := d.calls + 1, sl := d.log.length } ∧ Moves S S' w w' := by
  obtain ⟨m, hD, hS, _⟩ := h
  obtain ⟨a, c, hv⟩ : ∃ a c, m.logV = .slice a d.log.length c := by
    rcases hD.parts.log.2 with ⟨e1, e2⟩ | ⟨g', cap', cur', e1, _⟩
    · exact ⟨none, 0, by rw [e1, e2]⟩
    · exact ⟨_, _, e1⟩
  have HD : Hid (DiskAt w p m d) := hD
  have HS : Hid (∀ k, m.has p k → S k) := hS
  clear hD hS
  go_enter Tryz.func56, Tryz.ntmps56
  go_wp2_with fail
  refine (dead_any HD.out.blk.cells).mono ?_
  rintro x w1 ⟨rfl, rfl⟩
  rw [hd]
  go_wp2_with fail
  refine (powered_yes HD.out hl hn).mono ?_
  rintro x w2 ⟨rfl, hD1, hK1⟩
  have HD1 : Hid (DiskAt w2 p m { d with calls := d.calls + 1 }) := hD1
  have HK1 : Hid (Kept (fun k => k = p) _ w2) := hK1
  clear hD1 hK1
  have c9 := HD1.out.blk.cells.c9
  rw [hv] at c9
  go_wp2_with fail
  refine (cut_any HD1.out d.log.length (Nat.le_refl _) hll).mono ?_
  rintro x w3 ⟨rfl, ⟨v, hd3, hvb⟩, hk3⟩
  rw [show ({ d with calls := d.calls + 1 } : DG).log = d.log from rfl, List.take_length] at hd3
  have HF : Hid (∃ S', IsDisk w3 p S' { d with calls := d.calls + 1, sl := d.log.length } ∧ Moves S S' w1 w3) := by
    refine moved HD.out HS.out hd3 ?_ (HK1.out.trans hk3) fun k x => .inl x
    rintro k (x | x | x | x | x)
    · exact .inl (.inl x)
    · exact .inl (.inr (.inl x))
    · exact .inl (.inr (.inr (.inl x)))
    · simp only at x
      rcases hvb with e | e
      · rw [e] at x; cases x
      · rw [e] at x; exact .inl (.inr (.inr (.inr (.inl x))))
    · exact .inl (.inr (.inr (.inr (.inr x))))
  clear hd3 hk3 hvb
  go_wp2
  go_ret
  exact ⟨rfl, HF.out⟩

set_option maxHeartbeats 1600000 in
set_option maxRecDepth 8000 in
theorem appendLog_falls (h : IsDisk w p S d) (hd : d.dead = false) (hok : d.ok) {f : FG} {r : List FG} (hl : d.plan = f :: r) (he : f.call = d.calls) (hf : f.keep < 18446744073709551616) (s : ByteArray) (hs : d.log.length + s.size ≤ 4194304) :
    Calls Tryz.prog 113 #[.pointer (some ⟨p, 0, none⟩), .string s] w fun x w' => x = .returned (.int .i64 7) ∧ ∃ S', IsDisk w' p S' (failD f { d with plan := r }) ∧ Moves S S' w w' := by
  obtain ⟨m, hD, hS, _⟩ := h
  obtain ⟨a, c, hv⟩ : ∃ a c, m.logV = .slice a d.log.length c := by
    rcases hD.parts.log.2 with ⟨e1, e2⟩ | ⟨g', cap', cur', e1, _⟩
    · exact ⟨none, 0, by rw [e1, e2]⟩
    · exact ⟨_, _, e1⟩
  have c9 := hD.blk.cells.c9
  rw [hv] at c9
  have HD : Hid (DiskAt w p m d) := hD
  have HS : Hid (∀ k, m.has p k → S k) := hS
  have HL : Hid (d.plan = f :: r) := hl
  clear hD hS hl
  have hs' : (s.size : Int) ≤ 4194304 - (d.log.length : Int) := by omega
  go_enter Tryz.func113, Tryz.ntmps113
  go_wp2_with fail
  refine (dead_any HD.out.blk.cells).mono ?_
  rintro x w1 ⟨rfl, rfl⟩
  rw [hd]
  go_wp2_with fail
  refine (powered_falls HD.out hok HL.out he hf).mono ?_
  rintro x w2 ⟨rfl, ⟨m2, hD2, hr2⟩, hK2⟩
  have HF : Hid (∃ S', IsDisk w2 p S' (failD f { d with plan := r }) ∧ Moves S S' _ w2) := moved HD.out HS.out hD2 hr2 hK2 (fun k x => by
    rcases x with x | x
    · exact .inl x
    · exact .inr (.inl x))
  clear hD2 hr2 hK2 c9
  go_wp2
  go_ret
  exact ⟨rfl, HF.out⟩

set_option maxHeartbeats 1600000 in
set_option maxRecDepth 8000 in
theorem syncLog_falls (h : IsDisk w p S d) (hd : d.dead = false) (hok : d.ok) {f : FG} {r : List FG} (hl : d.plan = f :: r) (he : f.call = d.calls) (hf : f.keep < 18446744073709551616) :
    Calls Tryz.prog 56 #[.pointer (some ⟨p, 0, none⟩)] w fun x w' => x = .returned (.int .i64 7) ∧ ∃ S', IsDisk w' p S' (failD f { d with plan := r }) ∧ Moves S S' w w' := by
  obtain ⟨m, hD, hS, _⟩ := h
  have HD : Hid (DiskAt w p m d) := hD
  have HS : Hid (∀ k, m.has p k → S k) := hS
  have HL : Hid (d.plan = f :: r) := hl
  clear hD hS hl
  go_enter Tryz.func56, Tryz.ntmps56
  go_wp2_with fail
  refine (dead_any HD.out.blk.cells).mono ?_
  rintro x w1 ⟨rfl, rfl⟩
  rw [hd]
  go_wp2_with fail
  refine (powered_falls HD.out hok HL.out he hf).mono ?_
  rintro x w2 ⟨rfl, ⟨m2, hD2, hr2⟩, hK2⟩
  have HF : Hid (∃ S', IsDisk w2 p S' (failD f { d with plan := r }) ∧ Moves S S' _ w2) := moved HD.out HS.out hD2 hr2 hK2 (fun k x => by
    rcases x with x | x
    · exact .inl x
    · exact .inr (.inl x))
  clear hD2 hr2 hK2
  go_wp2
  go_ret
  exact ⟨rfl, HF.out⟩

end

end Go.Proofs.YtgmfgkdecpldeaaGreat

namespace Go.Proofs.YtgmfgkdecpldeaaGreat
open Go.RowKit
set_option linter.unusedVariables false

section
variable {w : World} {p : Nat} {S : Nat → Prop} {d : DG}

set_option maxHeartbeats 1600000 in
set_option maxRecDepth 8000 in
theorem write_yes (h : IsDisk w p S d) (hd : d.dead = false) (hl : NotDue d) (hn : d.calls ≤ 1000000 ∧ d.loose.length ≤ 1000000 ∧ d.nF ≤ 1000000) (q : Nat) (hq : q < 4294967296) (hc : checkE d.room q = 0) (s : ByteArray) (hs : s.size = 512) :
    Calls Tryz.prog 34 #[.pointer (some ⟨p, 0, none⟩), .int .u32 q, .string s] w fun x w' => x = .returned (.int .i64 0) ∧ ∃ S', IsDisk w' p S' (wrD d q s) ∧ Moves S S' w w' := by
  obtain ⟨m, hD, hS, _⟩ := h
  obtain ⟨i0, hi, hz0, hz1, hz2⟩ := info_parts infoW
  have HD : Hid (DiskAt w p m d) := hD
  have HS : Hid (∀ k, m.has p k → S k) := hS
  clear hD hS
  go_enter Tryz.func34, Tryz.ntmps34
  go_wp2_with fail
  refine (dead_any HD.out.blk.cells).mono ?_
  rintro x w1 ⟨rfl, rfl⟩
  rw [hd]
  go_wp2_with fail
  refine (check_any HD.out.blk.cells q hq).mono ?_
  rintro x w1 ⟨rfl, rfl⟩
  rw [hc]
  go_wp2_with fail
  refine (powered_yes HD.out hl hn.1).mono ?_
  rintro x w1 ⟨rfl, hD1, hK1⟩
  have HD1 : Hid (DiskAt w1 p m { d with calls := d.calls + 1 }) := hD1
  have HK1 : Hid (Kept (fun k => k = p) _ w1) := hK1
  clear hD1 hK1
  go_wp2_with fail
  refine (clone_any _ _ (by omega)).mono ?_
  rintro x w2 ⟨rfl, b2⟩
  have HB2 : Hid (Below w1.heap.size w1 w2) := b2
  have HD2 : Hid (DiskAt w2 p m { d with calls := d.calls + 1 }) := HD1.out.below b2
  clear b2
  have c6 := HD2.out.blk.cells.c6
  have hlt2 := HD2.out.lt
  have HB3 : Hid (Below w2.heap.size w2 (w2.alloc (.cells #[.int .u32 q, .string s, .int .u64 0] 128))) := (Below.refl _ _).alloc (Nat.le_refl _) _
  have hown3 := (HD2.out.below HB3.out).parts.loose
  have hnb := Blk.made w2 #[.int .u32 q, .string s, .int .u64 0] 128
  have hnews : ∀ j u, (wcells ⟨q, s, 0⟩)[j]? = some u → (w2.alloc (.cells #[.int .u32 q, .string s, .int .u64 0] 128)).cell? ((⟨w2.heap.size, 0, none⟩ : Addr).add j) = some u := by
    intro j u hj
    have e := hnb.cell j
    rw [Addr.add_lit, Nat.zero_add, e]
    simpa [wcells] using hj
  go_wp2_with (at_builtin; refine wpList_append_own_at _ rfl _ _ 96 rfl 0 128 i0 (.agg #[.int .u32 0, .string ⟨#[]⟩, .int .u64 0]) 3 32 Tryz.underlying96 hi hz0 hz1 hz2 rfl (by decide) m.looseV d.loose.length (d.loose.flatMap wcells) rfl hown3 ⟨w2.heap.size, 0, none⟩ 1 1 (wcells ⟨q, s, 0⟩) rfl rfl hnews (by intro u hu; simp [wcells] at hu; rcases hu with rfl | rfl | rfl <;> rfl) (by unfold maxLen; omega) (by omega) (Nat.zero_le _) ?_)
  intro v' w3 hown' hgrow _ hloc
  obtain ⟨a', c', hv⟩ : ∃ a' c', v' = .slice a' (d.loose.length + 1) c' := by
    rcases hown'.2 with ⟨e1, e2⟩ | ⟨g, cap, cur, e1, _⟩
    · omega
    · exact ⟨_, _, e1⟩
  obtain ⟨hb3, hD3, hr3, hK3⟩ := pushed HD2.out ⟨q, s, 0⟩ HB3.out hown' hgrow (z := w2.heap.size + 1) (by omega) hloc
  obtain ⟨u, hu⟩ := putP_ex m.fresh q s
  obtain ⟨hr, hp1, hp2⟩ := hu _ _ _ hD3.parts.fresh (by show d.nF ≤ _; omega) hq (by omega)
  obtain ⟨hD4, hK4⟩ := freshened hD3 hp1 hp2
  have c6' : w3.cell? ⟨p, 6, none⟩ = some m.looseV := (World.cell?_of_block (w := w2) (a := ⟨p, 6, none⟩) (hb3 p hlt2 (fun e => HD2.out.off (.inr (.inr (.inl e))) rfl))).trans c6
  have f6' : w3.frozen? ⟨p, 6, none⟩ = false := (World.frozen?_of_block (w := w2) (a := ⟨p, 6, none⟩) (hb3 p hlt2 (fun e => HD2.out.off (.inr (.inr (.inl e))) rfl))).trans (HD2.out.blk.cells.fr 6)
  have c7' : w3.cell? ⟨p, 7, none⟩ = some (.map (some m.fresh)) := (World.cell?_of_block (w := w2) (a := ⟨p, 7, none⟩) (hb3 p hlt2 (fun e => HD2.out.off (.inr (.inr (.inl e))) rfl))).trans HD2.out.blk.cells.c7
  have hr' : (Instr.mapUpdate 95 (.map (some m.fresh)) (.int .u32 q) (.string s)).run Tryz.prog (w3.setCell ⟨p, 6, none⟩ v') = .ok () (u (w3.setCell ⟨p, 6, none⟩ v')) := hr
  clear hr
  have HD4 : Hid (DiskAt (u (w3.setCell ⟨p, 6, none⟩ v')) p { m with looseV := v' } (wrD d q s)) := hD4
  have HK4 : Hid (Kept (m.has p) w2 (u (w3.setCell ⟨p, 6, none⟩ v'))) := by
    exact hK3.trans (hK4.mono fun k e => .inr (.inr (.inl e)))
  have HR : Hid (∀ k, v'.ownBlock = some k → m.rest k ∨ w2.heap.size ≤ k) := hr3
  clear hD4 hK4 hr3 hK3 hD3 hb3 hp1 hp2 hu hown' hgrow hloc hnews hnb hown3 c6
  subst hv
  go_wp2
  go_ret
  refine ⟨rfl, ?_⟩
  refine moved HD.out HS.out HD4.out ?_ ((HK1.out.mono fun k e => .inl e).trans ((Kept.of_below HB2.out).trans HK4.out)) fun k x => x
  have hz := HK1.out.size
  have hz2 := HB2.out.size
  rintro k (x | x | x | x | x)
  · exact .inl (.inl x)
  · exact .inl (.inr (.inl x))
  · rcases HR.out k x with y | y
    · exact .inl y
    · exact .inr (by omega)
  · exact .inl (.inr (.inr (.inr (.inl x))))
  · exact .inl (.inr (.inr (.inr (.inr x))))


set_option maxHeartbeats 1600000 in
set_option maxRecDepth 8000 in
theorem sync_yes (h : IsDisk w p S d) (hd : d.dead = false) (hl : NotDue d) (hn : d.calls ≤ 1000000) (hok : d.ok) :
    Calls Tryz.prog 115 #[.pointer (some ⟨p, 0, none⟩)] w fun x w' => x = .returned (.int .i64 0) ∧ ∃ S', IsDisk w' p S' (syncD d) ∧ Moves S S' w w' := by
  obtain ⟨m, hD, hS, _⟩ := h
  have HD : Hid (DiskAt w p m d) := hD
  have HS : Hid (∀ k, m.has p k → S k) := hS
  clear hD hS
  obtain ⟨a, cap, e, hA⟩ : ∃ a cap, m.looseV = .slice a d.loose.length cap ∧ (a = none ∧ d.loose.length = 0 ∨ ∃ g, a = some ⟨g, 0, none⟩ ∧ d.loose.length ≤ cap ∧ cap ≤ 9223372036854775807) := by
    rcases HD.out.parts.loose.2 with ⟨e1, e2⟩ | ⟨g', cap', cur', e1, h0, hb, h1, h2, h3, h4⟩
    · exact ⟨none, 0, by rw [e1, e2], .inl ⟨rfl, e2⟩⟩
    · exact ⟨_, _, e1, .inr ⟨g', rfl, h1, by unfold maxLen at h2; omega⟩⟩
  have HA : Hid (a = none ∧ d.loose.length = 0 ∨ ∃ g, a = some ⟨g, 0, none⟩ ∧ d.loose.length ≤ cap ∧ cap ≤ 9223372036854775807) := hA
  clear hA
  go_enter Tryz.func115, Tryz.ntmps115
  go_wp2_with fail
  refine (dead_any HD.out.blk.cells).mono ?_
  rintro x w1 ⟨rfl, rfl⟩
  rw [hd]
  go_wp2_with fail
  refine (powered_yes HD.out hl hn).mono ?_
  rintro x w2 ⟨rfl, hD1, hK1⟩
  have HD1 : Hid (DiskAt w2 p m { d with calls := d.calls + 1 }) := hD1
  have HK1 : Hid (Kept (fun k => k = p) w1 w2) := hK1
  clear hD1 hK1
  have c6 := HD1.out.blk.cells.c6
  rw [e] at c6
  go_wp2
  go_loopw [17] (fun i wr => ∃ k : Nat, k ≤ d.loose.length ∧ i = .int .i64 k ∧
      Hid (DiskAt wr p m { d with calls := d.calls + 1, sure := (keepTo d.loose (d.sure, d.sm) k).1, sm := (keepTo d.loose (d.sure, d.sm) k).2, nS := d.nS + k }) ∧
      Hid (Kept (fun k => k = p ∨ k = m.sure) w1 wr)) (fun i _ => d.loose.length - (intOf i).toNat)
  case atStart => exact ⟨0, Nat.zero_le _, rfl, HD1.out, HK1.out.mono fun _ x => .inl x⟩
  case round =>
    obtain ⟨k, hk, rfl, HDr, HKr⟩ := hrel
    by_cases hlt : k < d.loose.length
    · obtain ⟨g, hg, h1, h2⟩ : ∃ g, a = some ⟨g, 0, none⟩ ∧ d.loose.length ≤ cap ∧ cap ≤ 9223372036854775807 := by
        rcases HA.out with ⟨_, h⟩ | h
        · omega
        · exact h
      subst hg
      obtain ⟨x, hx⟩ : ∃ x, d.loose[k]? = some x := ⟨_, List.getElem?_eq_getElem hlt⟩
      have hown' := HDr.out.parts.loose
      rw [e] at hown'
      have q0 := owns_cells hown' (k * 3 + 0) _ (wcells_get _ k x hx 0 (by omega))
      have q1 := owns_cells hown' (k * 3 + 1) _ (wcells_get _ k x hx 1 (by omega))
      have q2 := owns_cells hown' (k * 3 + 2) _ (wcells_get _ k x hx 2 (by omega))
      rw [Nat.add_zero] at q0
      have hlw : p < wr.heap.size := HDr.out.lt
      have hlg : g < wr.heap.size := by obtain ⟨cur', hb'⟩ := owns_block hown' rfl; exact hb'.lt
      have hxo := hok.loose x (List.mem_of_getElem? hx)
      obtain ⟨pg, s, mk⟩ := x
      have HX : Hid (d.loose[k]? = some ⟨pg, s, mk⟩) := hx
      clear hx hown'
      have hki : (k : Int) < d.loose.length := by omega
      have hB : Hid (Below wr.heap.size wr (wr.alloc (.cells #[.int .u32 pg, .string s, .int .u64 mk] 128))) := (Below.refl _ _).alloc (Nat.le_refl _) _
      go_wp2_with fail
      refine (keep_any (HDr.out.below hB.out) ⟨pg, s, mk⟩ hxo.1 hxo.2.1 (by have := hok.n; show d.nS + k ≤ _; omega)).mono ?_
      rintro z w3 ⟨rfl, hd2, hk2⟩
      have HD2 : Hid (DiskAt w3 p m { d with calls := d.calls + 1, sure := (keepTo d.loose (d.sure, d.sm) (k + 1)).1, sm := (keepTo d.loose (d.sure, d.sm) (k + 1)).2, nS := d.nS + (k + 1) }) := by
        rw [keepTo_succ HX.out]; exact hd2
      have HK2 : Hid (Kept (fun k => k = p ∨ k = m.sure) w1 w3) := HKr.out.trans ((Kept.of_below hB.out).trans hk2)
      clear hd2 hk2 hB
      go_wp2
      go_roundw
      case rel => exact ⟨k + 1, by omega, by go_num, HD2, HK2⟩
      case measure => simp [intOf]; omega
    · have hkn : k = d.loose.length := by omega
      subst hkn
      go_wp2_with fail
      refine (settle_any HDr.out).mono ?_
      rintro z w3 ⟨rfl, ⟨b2, hd2, hb2⟩, hk2⟩
      have hsz := HKr.out.size
      have HF : Hid (∃ S', IsDisk w3 p S' (syncD d) ∧ Moves S S' w1 w3) := by
        refine moved HD.out HS.out hd2 ?_ (HKr.out.trans (hk2.mono fun _ x => .inl x)) fun k x => by
          rcases x with x | x
          · exact .inl x
          · exact .inr (.inl x)
        rintro k (x | x | x | x | x)
        · exact .inl (.inl x)
        · right; simp only at x; omega
        · cases x
        · exact .inl (.inr (.inr (.inr (.inl x))))
        · exact .inl (.inr (.inr (.inr (.inr x))))
      clear hd2 hk2
      go_wp2
      go_ret
      exact ⟨rfl, HF.out⟩


set_option maxHeartbeats 1600000 in
set_option maxRecDepth 8000 in
theorem sync_falls (h : IsDisk w p S d) (hd : d.dead = false) (hok : d.ok) {f : FG} {r : List FG} (hl : d.plan = f :: r) (he : f.call = d.calls) (hf : f.keep < 18446744073709551616) :
    Calls Tryz.prog 115 #[.pointer (some ⟨p, 0, none⟩)] w fun x w' => x = .returned (.int .i64 7) ∧ ∃ S', IsDisk w' p S' (failD f { d with plan := r }) ∧ Moves S S' w w' := by
  obtain ⟨m, hD, hS, _⟩ := h
  have HD : Hid (DiskAt w p m d) := hD
  have HS : Hid (∀ k, m.has p k → S k) := hS
  have HL : Hid (d.plan = f :: r) := hl
  clear hD hS hl
  go_enter Tryz.func115, Tryz.ntmps115
  go_wp2_with fail
  refine (dead_any HD.out.blk.cells).mono ?_
  rintro x w1 ⟨rfl, rfl⟩
  rw [hd]
  go_wp2_with fail
  refine (powered_falls HD.out hok HL.out he hf).mono ?_
  rintro x w2 ⟨rfl, ⟨m2, hD2, hr2⟩, hK2⟩
  have HF : Hid (∃ S', IsDisk w2 p S' (failD f { d with plan := r }) ∧ Moves S S' _ w2) := moved HD.out HS.out hD2 hr2 hK2 (fun k x => by
    rcases x with x | x
    · exact .inl x
    · exact .inr (.inl x))
  clear hD2 hr2 hK2
  go_wp2
  go_ret
  exact ⟨rfl, HF.out⟩

set_option maxHeartbeats 1600000 in
set_option maxRecDepth 8000 in
theorem write_falls (h : IsDisk w p S d) (hd : d.dead = false) (hok : d.ok) {f : FG} {r : List FG} (hl : d.plan = f :: r) (he : f.call = d.calls) (hf : f.keep < 18446744073709551616) (q : Nat) (hq : q < 4294967296) (hc : checkE d.room q = 0) (s : ByteArray) (hs : s.size = 512) :
    Calls Tryz.prog 34 #[.pointer (some ⟨p, 0, none⟩), .int .u32 q, .string s] w fun x w' => x = .returned (.int .i64 7) ∧ ∃ S', IsDisk w' p S' (failD f { d with plan := r }) ∧ Moves S S' w w' := by
  obtain ⟨m, hD, hS, _⟩ := h
  have HD : Hid (DiskAt w p m d) := hD
  have HS : Hid (∀ k, m.has p k → S k) := hS
  have HL : Hid (d.plan = f :: r) := hl
  have hs' : (s.size : Int) = 512 := by omega
  clear hD hS hl
  go_enter Tryz.func34, Tryz.ntmps34
  go_wp2_with fail
  refine (dead_any HD.out.blk.cells).mono ?_
  rintro x w1 ⟨rfl, rfl⟩
  rw [hd]
  go_wp2_with fail
  refine (check_any HD.out.blk.cells q hq).mono ?_
  rintro x w1 ⟨rfl, rfl⟩
  rw [hc]
  go_wp2_with fail
  refine (powered_falls HD.out hok HL.out he hf).mono ?_
  rintro x w2 ⟨rfl, ⟨m2, hD2, hr2⟩, hK2⟩
  have HF : Hid (∃ S', IsDisk w2 p S' (failD f { d with plan := r }) ∧ Moves S S' _ w2) := moved HD.out HS.out hD2 hr2 hK2 (fun k x => by
    rcases x with x | x
    · exact .inl x
    · exact .inr (.inl x))
  clear hD2 hr2 hK2
  go_wp2
  go_ret
  exact ⟨rfl, HF.out⟩

end

end Go.Proofs.YtgmfgkdecpldeaaGreat

namespace Go.Proofs.YtgmfgkdecpldeaaGreat
open Go.RowKit
set_option linter.unusedVariables false

set_option maxHeartbeats 800000 in
theorem fins_small (v f : Value) (n : Nat) (hn : n ≤ 1) (w : World) : Calls Tryz.prog 104 #[v, .int .i64 0, .int .i64 n, f] w fun e w' => e = .returned (.tuple #[]) ∧ w' = w := by
  have hn' : ¬ (1 : Int) < (n : Int) := by omega
  go_enter Tryz.func104, Tryz.ntmps104
  go_wp2_with fail
  go_loopw [8] (fun i wr => i = .int .i64 1 ∧ wr = w) (fun _ _ => 0)
  case atStart => exact ⟨rfl, rfl⟩
  case round =>
    obtain ⟨rfl, rfl⟩ := hrel
    go_wp2
    go_end0
    exact ⟨rfl, rfl⟩

set_option maxHeartbeats 800000 in
theorem fstable_small (v f : Value) (n : Nat) (hn : n ≤ 1) (w : World) : Calls Tryz.prog 71 #[v, .int .i64 n, f] w fun e w' => e = .returned (.tuple #[]) ∧ w' = w := by
  have hi := fins_small v f n hn w
  have hn' : ¬ (20 : Int) ≤ (n : Int) := by omega
  have hn2 : ¬ (20 : Int) < (n : Int) := by omega
  go_enter Tryz.func71, Tryz.ntmps71
  go_wp2_with fail
  go_loopw [7, 8] (fun a b wr => a = .int .i64 0 ∧ b = .int .i64 20 ∧ wr = w) (fun _ _ _ => 0)
  case atStart => exact ⟨rfl, rfl, rfl⟩
  case round =>
    obtain ⟨rfl, rfl, rfl⟩ := hrel
    go_wp2_with fail
    refine hi.mono ?_
    rintro e w1 ⟨rfl, rfl⟩
    go_wp2_with fail
    go_loopw [6] (fun a wr => a = .int .i64 20 ∧ wr = w1) (fun _ _ => 0)
    case atStart => exact ⟨rfl, rfl⟩
    case round =>
      obtain ⟨rfl, rfl⟩ := hrel
      go_wp2
      go_end0
      exact ⟨rfl, rfl⟩

set_option maxHeartbeats 800000 in
theorem fsort_small (a : Option Addr) (c : Nat) (f : Value) (n : Nat) (hn : n ≤ 1) (w : World) : Calls Tryz.prog 41 #[.slice a n c, f] w fun e w' => e = .returned (.tuple #[]) ∧ w' = w := by
  have hi := fstable_small (.slice a n c) f n hn w
  go_enter Tryz.func41, Tryz.ntmps41
  go_wp2_with fail
  refine hi.mono ?_
  rintro e w1 ⟨rfl, rfl⟩
  go_wp2
  go_end0
  exact ⟨rfl, rfl⟩

section
variable {w : World} {p : Nat} {S : Nat → Prop} {d : DG}

set_option maxHeartbeats 1600000 in
set_option maxRecDepth 8000 in
theorem plan_nil (h : IsDisk w p S d) :
    Calls Tryz.prog 13 #[.pointer (some ⟨p, 0, none⟩), .slice none 0 0] w fun x w' => x = .returned (.tuple #[]) ∧ ∃ S', IsDisk w' p S' { d with plan := [] } ∧ Moves S S' w w' := by
  obtain ⟨m, hD, hS, _⟩ := h
  have c3 := hD.blk.cells.c3
  have f3 := hD.blk.cells.fr 3
  have hD1 := planned hD (v := .slice none 0 0) (r := []) (.inl ⟨rfl, rfl⟩) (fun k hk => by simp [Value.ownBlock] at hk)
  have HF : Hid (∃ S', IsDisk (w.setCell ⟨p, 3, none⟩ (.slice none 0 0)) p S' { d with plan := [] } ∧ Moves S S' w (w.setCell ⟨p, 3, none⟩ (.slice none 0 0))) := by
    refine moved hD hS hD1 ?_ (Kept.setCell (fun k => k = p) _ _ _ _ rfl) fun k x => .inl x
    rintro k (x | x | x | x | x)
    · exact .inl (.inl x)
    · exact .inl (.inr (.inl x))
    · exact .inl (.inr (.inr (.inl x)))
    · exact .inl (.inr (.inr (.inr (.inl x))))
    · simp [Value.ownBlock] at x
  have c3' : (w.setCell ⟨p, 3, none⟩ (.slice none 0 0)).cell? ⟨p, 3, none⟩ = some (.slice none 0 0) := hD1.blk.cells.c3
  clear hD hD1 hS
  go_enter Tryz.func13, Tryz.ntmps13
  go_wp2_with fail
  generalize w.setCell ⟨p, 3, none⟩ (.slice none 0 0) = W1 at *
  clear c3 f3
  go_loopw [13] (fun i wr => i = .int .i64 0 ∧ wr = W1) (fun _ _ => 0)
  case atStart => exact ⟨rfl, rfl⟩
  case round =>
    obtain ⟨rfl, rfl⟩ := hrel
    go_wp2_with fail
    refine (fsort_small none 0 _ 0 (by omega) _).mono ?_
    rintro e w1 ⟨rfl, rfl⟩
    go_wp2
    go_end0
    exact ⟨rfl, HF.out⟩

end

end Go.Proofs.YtgmfgkdecpldeaaGreat

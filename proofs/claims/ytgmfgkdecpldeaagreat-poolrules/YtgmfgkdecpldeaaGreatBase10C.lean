/-
  What PoolRules keeps: the pool, the log and the disk as plain data.
  The calls of PoolRules, where it stands.
  The walk of PoolRules.
-/
import Derived.Test.YtgmfgkdecpldeaaGreatBase9C
namespace Go.Proofs.YtgmfgkdecpldeaaGreat
open Go.RowKit Go.Sort Go.Shelf
set_option linter.unusedVariables false
set_option linter.unusedSimpArgs false

/-- Bytes that are blank, or the page n of a record that is flushed. -/
def PgOk (n fl : Nat) (s : ByteArray) : Prop := s = zerosS ∨ ∃ Y : SheetV, Y.Fits ∧ Y.num = n ∧ Y.lsn ≤ fl ∧ s = ⟨(encL Y).toArray⟩

theorem PgOk.mono {n a b : Nat} {s : ByteArray} (h : PgOk n a s) (k : a ≤ b) : PgOk n b s := by
  rcases h with h | ⟨Y, h1, h2, h3, h4⟩
  · exact .inl h
  · exact .inr ⟨Y, h1, h2, Nat.le_trans h3 k, h4⟩

theorem PgOk.dec {n fl : Nat} {s : ByteArray} (h : PgOk n fl s) : decE s = 0 ∧ ((decP s).num = n ∨ (decP s).num = 0) ∧ (decP s).lsn ≤ fl := by
  rcases h with rfl | ⟨Y, h1, h2, h3, rfl⟩
  · rw [dec_zeros.1, dec_zeros.2]
    exact ⟨rfl, .inr rfl, Nat.zero_le _⟩
  · rw [(dec_enc Y h1).1, (dec_enc Y h1).2]
    exact ⟨rfl, .inl h2, h3⟩

theorem PgOk.rd {n fl : Nat} {s : ByteArray} (h : PgOk n fl s) : rdB n s = true ∧ (rdP n s).lsn ≤ fl := by
  obtain ⟨h1, h2, h3⟩ := h.dec
  have hb : rdB n s = true := by unfold rdB; exact decide_eq_true ⟨h1, h2⟩
  refine ⟨hb, ?_⟩
  unfold rdP
  rw [if_pos hb]
  exact h3

theorem ch_ok {n fl : Nat} {s t : ByteArray} (hs : PgOk n fl s) (ht : PgOk n fl t) : chE n s t = 0 ∧ (chX n s t).lsn ≤ fl := by
  unfold chE chX
  rw [ht.rd.1]
  split
  · exact ⟨rfl, hs.rd.2⟩
  · exact ⟨rfl, ht.rd.2⟩

theorem check64 {n : Nat} (h1 : 1 ≤ n) (h2 : n ≤ 20) : checkE 64 n = 0 := by
  unfold checkE
  rw [if_neg (by omega), if_neg (by omega)]

structure RI (P : PG) (l : LG) (d : DG) (K : Nat) : Prop where
  most : P.most = 4
  pk : P.picks = []
  z : P.z ≤ 4
  wr : P.written ≤ K
  fe : P.fetched ≤ K
  pages : ∃ NL : List Nat, NL.Nodup ∧ NL.length = P.z ∧ ∀ n, n ∈ NL ↔ P.F n ≠ none
  frs : ∀ n f, P.F n = some f → 1 ≤ n ∧ n ≤ 20 ∧ f.sh.Fits ∧ f.sh.num = n ∧ f.sh.lsn ≤ l.bytes.length
  dok : DOk d (10 * K)
  room : d.room = 64
  lok : LOk l d
  kept : l.kept = 0
  len : l.bytes.length ≤ 100 * K
  st : l.starts.length ≤ K
  pg : ∀ n, 1 ≤ n → n ≤ 20 → PgOk n l.flushed (readD d n) ∧ PgOk n l.flushed (readD d (n + 2048))

theorem RI.fe_ok' {P : PG} {l : LG} {d : DG} {K : Nat} (h : RI P l d K) {n : Nat} (h1 : 1 ≤ n) (h2 : n ≤ 20) : feE d n = 0 ∧ (feX d n).lsn ≤ l.flushed := by
  have hc : checkE d.room n = 0 := by rw [h.room]; exact check64 h1 h2
  obtain ⟨p1, p2⟩ := h.pg n h1 h2
  unfold feE feX
  rw [if_pos hc, if_pos hc]
  exact ch_ok p1 p2

theorem encE_of {p : SheetV} (f : p.Fits) : encE p = 0 := by
  have := f.kind0; have := f.kind1; have := f.head; have := f.len; have := f.fits
  unfold encE
  rw [if_neg (by omega), if_neg (by omega)]

theorem encS_of {p : SheetV} (f : p.Fits) : encS p = ⟨(encL p).toArray⟩ := by unfold encS; rw [if_pos (encE_of f)]

theorem flL_le {l : LG} {d : DG} (h : LOk l d) {up : Nat} (hu : up ≤ l.bytes.length) : up ≤ (flL l up).flushed ∧ l.flushed ≤ (flL l up).flushed := by
  have := h.fl
  unfold flL
  split
  · exact ⟨hu, h.fl⟩
  · rename_i hb
    unfold flB at hb
    have hb' : ¬ (l.flushed < l.bytes.length ∧ l.flushed + 1 ≤ up) := by simpa using hb
    exact ⟨by omega, Nat.le_refl _⟩

/-- A page was written out. -/
theorem RI.out {P : PG} {l : LG} {d : DG} {K : Nat} (h : RI P l d K) (hK : K ≤ 1000) {n : Nat} {f : FrV} (hf : P.F n = some f) :
    DOk (outD l d f.sh) (10 * (K + 1)) ∧ (outD l d f.sh).room = 64 ∧ LOk (flL l f.sh.lsn) (outD l d f.sh) ∧ (flL l f.sh.lsn).kept = 0 ∧ (flL l f.sh.lsn).bytes = l.bytes ∧ (flL l f.sh.lsn).starts = l.starts ∧
      ∀ m, 1 ≤ m → m ≤ 20 → PgOk m (flL l f.sh.lsn).flushed (readD (outD l d f.sh) m) ∧ PgOk m (flL l f.sh.lsn).flushed (readD (outD l d f.sh) (m + 2048)) := by
  obtain ⟨h1, h2, hF, hn, hlsn⟩ := h.frs n f hf
  have hlo := h.lok
  obtain ⟨d1, r1, rm1⟩ := h.dok.fl hlo f.sh.lsn
  obtain ⟨or1, or2⟩ := ord_range (d := d) (n := f.sh.num) (by omega) (by omega)
  have h512 : (encS f.sh).size = 512 := by rw [encS_of hF]; exact enc_size f.sh hF
  obtain ⟨d2, r2⟩ := d1.ws (by omega) or1.1 h512
  obtain ⟨d3, r3⟩ := d2.ws (by omega) or2.1 h512
  have hO : (ord1 d f.sh.num = n ∧ ord2 d f.sh.num = n + 2048) ∨ (ord1 d f.sh.num = n + 2048 ∧ ord2 d f.sh.num = n) := by
    unfold ord1 ord2
    rw [hn]
    split
    · exact .inl ⟨rfl, rfl⟩
    · exact .inr ⟨rfl, rfl⟩
  obtain ⟨fl1, fl2⟩ := flL_le hlo hlsn
  have hlf := hlo.fl' f.sh.lsn
  have hread : ∀ r, readD (outD l d f.sh) r = if r = ord2 d f.sh.num then encS f.sh else if r = ord1 d f.sh.num then encS f.sh else readD d r := fun r => by
    have e := r3 r
    rw [r2 r, r1 r] at e
    exact e
  refine ⟨d3.mono (by omega), rm1.trans h.room, ⟨hlf.half, hlf.fl, hlf.most, hlf.at'⟩, ?_, ?_, ?_, fun m m1 m2 => ?_⟩
  · unfold flL
    split <;> exact h.kept
  · unfold flL
    split <;> rfl
  · unfold flL
    split <;> rfl
  · by_cases e : m = n
    · have hY : PgOk m (flL l f.sh.lsn).flushed (encS f.sh) := .inr ⟨f.sh, hF, by omega, fl1, encS_of hF⟩
      rw [hread, hread]
      rcases hO with ⟨a, b⟩ | ⟨a, b⟩
      · rw [a, b, if_neg (by omega), if_pos e, if_pos (by omega)]
        exact ⟨hY, hY⟩
      · rw [a, b, if_pos e, if_neg (by omega), if_pos (by omega)]
        exact ⟨hY, hY⟩
    · obtain ⟨p1, p2⟩ := h.pg m m1 m2
      rw [hread, hread]
      rcases hO with ⟨a, b⟩ | ⟨a, b⟩
      · rw [a, b, if_neg (by omega), if_neg (by omega), if_neg (by omega), if_neg (by omega)]
        exact ⟨p1.mono fl2, p2.mono fl2⟩
      · rw [a, b, if_neg (by omega), if_neg (by omega), if_neg (by omega), if_neg (by omega)]
        exact ⟨p1.mono fl2, p2.mono fl2⟩

theorem RI.step {P P' : PG} {l l' : LG} {d d' : DG} {K : Nat} (h : RI P l d K) (e1 : P'.most = P.most) (e2 : P'.picks = P.picks) (e3 : P'.z ≤ 4) (e4 : P'.written ≤ K + 1) (e5 : P'.fetched ≤ K + 1) (e6 : ∃ NL : List Nat, NL.Nodup ∧ NL.length = P'.z ∧ ∀ n, n ∈ NL ↔ P'.F n ≠ none)
    (e7 : ∀ n f, P'.F n = some f → 1 ≤ n ∧ n ≤ 20 ∧ f.sh.Fits ∧ f.sh.num = n ∧ f.sh.lsn ≤ l'.bytes.length) (e8 : DOk d' (10 * (K + 1))) (e9 : d'.room = 64) (e10 : LOk l' d') (e11 : l'.kept = 0) (e12 : l'.bytes.length ≤ 100 * (K + 1)) (e13 : l'.starts.length ≤ K + 1)
    (e14 : ∀ n, 1 ≤ n → n ≤ 20 → PgOk n l'.flushed (readD d' n) ∧ PgOk n l'.flushed (readD d' (n + 2048))) : RI P' l' d' (K + 1) :=
  ⟨e1.trans h.most, e2.trans h.pk, e3, e4, e5, e6, e7, e8, e9, e10, e11, e12, e13, e14⟩

/-- The pages of a pool whose frame is written again. -/
theorem pages_set {F : Nat → Option FrV} {z : Nat} (h : ∃ NL : List Nat, NL.Nodup ∧ NL.length = z ∧ ∀ n, n ∈ NL ↔ F n ≠ none) (n : Nat) (f : FrV) : ∃ NL : List Nat, NL.Nodup ∧ NL.length = (if (F n).isSome = true then z else z + 1) ∧ ∀ m, m ∈ NL ↔ setFr F n f m ≠ none := by
  obtain ⟨NL, h1, h2, h3⟩ := h
  by_cases hn : F n = none
  · refine ⟨n :: NL, List.nodup_cons.2 ⟨fun x => (h3 n).1 x hn, h1⟩, by rw [hn]; simp [h2], fun m => ?_⟩
    unfold setFr
    by_cases e : m = n
    · simp [e]
    · simp [e, h3]
  · refine ⟨NL, h1, ?_, fun m => ?_⟩
    · rw [if_pos (by cases hh : F n with | none => exact absurd hh hn | some g => rfl)]
      exact h2
    · unfold setFr
      by_cases e : m = n
      · subst e
        simp [(h3 m).2 hn]
      · simp [e, h3]

theorem pages_del {F : Nat → Option FrV} {z : Nat} (h : ∃ NL : List Nat, NL.Nodup ∧ NL.length = z ∧ ∀ n, n ∈ NL ↔ F n ≠ none) {n : Nat} (hn : F n ≠ none) : ∃ NL : List Nat, NL.Nodup ∧ NL.length = z - 1 ∧ ∀ m, m ∈ NL ↔ delFr F n m ≠ none := by
  obtain ⟨NL, h1, h2, h3⟩ := h
  refine ⟨NL.erase n, h1.erase n, by rw [List.length_erase_of_mem ((h3 n).2 hn), h2], fun m => ?_⟩
  rw [h1.mem_erase_iff]
  unfold delFr
  by_cases e : m = n
  · simp [e]
  · simp [e, h3]

theorem setFr_frs {F : Nat → Option FrV} {n : Nat} {g : FrV} {q : Nat} {f : FrV} (h : setFr F n g q = some f) : (q = n ∧ f = g) ∨ F q = some f := by
  unfold setFr at h
  split at h
  · rename_i e
    exact .inl ⟨e, (Option.some.inj h).symm⟩
  · exact .inr h

theorem delFr_frs {F : Nat → Option FrV} {n q : Nat} {f : FrV} (h : delFr F n q = some f) : F q = some f := by
  unfold delFr at h
  split at h
  · cases h
  · exact h

theorem RI.dmono {P : PG} {l : LG} {d : DG} {K : Nat} (h : RI P l d K) : DOk d (10 * (K + 1)) := h.dok.mono (by omega)

/-- Write of a page that is here. -/
theorem RI.write {P : PG} {l : LG} {d : DG} {K : Nat} (h : RI P l d K) (hK : K ≤ 1000) {n : Nat} {f : FrV} (hf : P.F n = some f) :
    RI { P with F := setFr P.F n ⟨f.sh, 0⟩, written := if f.since = 0 then P.written else P.written + 1 } (evL l f) (evD l d f) (K + 1) := by
  have h1 := h.wr
  have h2 := h.fe
  have h3 := h.len
  have h4 := h.st
  have hp := pages_set h.pages n ⟨f.sh, 0⟩
  rw [hf] at hp
  have hfr : ∀ q g, setFr P.F n ⟨f.sh, 0⟩ q = some g → 1 ≤ q ∧ q ≤ 20 ∧ g.sh.Fits ∧ g.sh.num = q ∧ g.sh.lsn ≤ l.bytes.length := fun q g hg => by
    rcases setFr_frs hg with ⟨rfl, rfl⟩ | hq
    · exact h.frs q f hf
    · exact h.frs q g hq
  unfold evL evD
  by_cases hs : f.since = 0
  · rw [if_pos hs, if_pos hs, if_pos hs]
    exact h.step rfl rfl h.z (by show P.written ≤ _; omega) (by show P.fetched ≤ _; omega) hp hfr h.dmono h.room h.lok h.kept (by omega) (by omega) h.pg
  · rw [if_neg hs, if_neg hs, if_neg hs]
    obtain ⟨o1, o2, o3, o4, o5, o6, o7⟩ := h.out hK hf
    exact h.step rfl rfl h.z (by show P.written + 1 ≤ _; omega) (by show P.fetched ≤ _; omega) hp (by rw [o5]; exact hfr) o1 o2 o3 o4 (by rw [o5]; omega) (by rw [o6]; omega) o7

/-- A page leaves. -/
theorem RI.evict {P : PG} {l : LG} {d : DG} {K : Nat} (h : RI P l d K) (hK : K ≤ 1000) {n : Nat} {f : FrV} (hf : P.F n = some f) : RI (evP P n f) (evL l f) (evD l d f) (K + 1) := by
  have h1 := h.wr
  have h2 := h.fe
  have h3 := h.len
  have h4 := h.st
  have hz := h.z
  have hp := pages_del h.pages (n := n) (by rw [hf]; simp)
  have hfr : ∀ q g, delFr P.F n q = some g → 1 ≤ q ∧ q ≤ 20 ∧ g.sh.Fits ∧ g.sh.num = q ∧ g.sh.lsn ≤ l.bytes.length := fun q g hg => h.frs q g (delFr_frs hg)
  unfold evL evD evP
  by_cases hs : f.since = 0
  · rw [if_pos hs, if_pos hs, if_pos hs]
    exact h.step rfl rfl (by show P.z - 1 ≤ 4; omega) (by show P.written ≤ _; omega) (by show P.fetched ≤ _; omega) hp hfr h.dmono h.room h.lok h.kept (by omega) (by omega) h.pg
  · rw [if_neg hs, if_neg hs, if_neg hs]
    obtain ⟨o1, o2, o3, o4, o5, o6, o7⟩ := h.out hK hf
    exact h.step rfl rfl (by show P.z - 1 ≤ 4; omega) (by show P.written + 1 ≤ _; omega) (by show P.fetched ≤ _; omega) hp (by rw [o5]; exact hfr) o1 o2 o3 o4 (by rw [o5]; omega) (by rw [o6]; omega) o7

theorem RI.more {P : PG} {l : LG} {d : DG} {K : Nat} (h : RI P l d K) : RI P l d (K + 1) := by
  have h1 := h.wr
  have h2 := h.fe
  have h3 := h.len
  have h4 := h.st
  exact h.step rfl rfl h.z (by omega) (by omega) h.pages h.frs h.dmono h.room h.lok h.kept (by omega) (by omega) h.pg

theorem least_of (NL : List Nat) (h : NL ≠ []) : ∃ n ∈ NL, ∀ m ∈ NL, n ≤ m := by
  induction NL with
  | nil => exact absurd rfl h
  | cons a L ih =>
    by_cases hL : L = []
    · subst hL
      exact ⟨a, by simp, fun m hm => by simp at hm; omega⟩
    · obtain ⟨n, h1, h2⟩ := ih hL
      by_cases e : a ≤ n
      · exact ⟨a, by simp, fun m hm => by
          rcases List.mem_cons.1 hm with x | x
          · omega
          · have := h2 m x; omega⟩
      · exact ⟨n, by simp [h1], fun m hm => by
          rcases List.mem_cons.1 hm with x | x
          · omega
          · exact h2 m x⟩

/-- There is room, or room is made. -/
theorem RI.roomed {P : PG} {l : LG} {d : DG} {K : Nat} (h : RI P l d K) (hK : K ≤ 1000) :
    ∃ P1 l1 d1, (∀ p, RoomTo p P l d P1 l1 d1) ∧ RI P1 l1 d1 (K + 1) ∧ P1.z ≤ 3 ∧ (∀ m, P.F m = none → P1.F m = none) ∧ l1.bytes = l.bytes ∧ P1.dp = P.dp ∧ P1.lp = P.lp := by
  have hz := h.z
  have hm := h.most
  by_cases hz4 : P.z < 4
  · exact ⟨P, l, d, fun p => room_roomy (by omega) (by omega), h.more, by omega, fun m e => e, rfl, rfl, rfl⟩
  · obtain ⟨NL, n1, n2, n3⟩ := h.pages
    obtain ⟨n, hn, hle⟩ := least_of NL (by intro e; rw [e] at n2; simp at n2; omega)
    have hne := (n3 n).1 hn
    obtain ⟨f, hf⟩ : ∃ f, P.F n = some f := by
      cases e : P.F n with
      | none => exact absurd e hne
      | some f => exact ⟨f, rfl⟩
    obtain ⟨f1, f2, _⟩ := h.frs n f hf
    have hv : IsVic P n := ⟨f1, by omega, hne, fun m _ hmm => hle m ((n3 m).2 hmm)⟩
    have hwr := h.wr
    refine ⟨evP P n f, evL l f, evD l d f, fun p => room_full h.dok (by omega) h.lok (by omega) (by omega) h.pk (by omega) hv hf (by rw [h.room]; exact check64 f1 f2), h.evict hK hf, by show P.z - 1 ≤ 3; omega, fun m e => ?_, ?_, rfl, rfl⟩
    · show delFr P.F n m = none
      unfold delFr
      split
      · rfl
      · exact e
    · unfold evL
      split
      · rfl
      · unfold flL
        split <;> rfl

theorem RI.put {P : PG} {l : LG} {d : DG} {K : Nat} (h : RI P l d K) (X : SheetV) (hF : X.Fits) (h1 : 1 ≤ X.num) (h2 : X.num ≤ 20) (hl : X.lsn ≤ l.bytes.length) (hz : P.F X.num ≠ none ∨ P.z ≤ 3) : RI (putP P X) l d (K + 1) := by
  have a1 := h.wr
  have a2 := h.fe
  have a3 := h.len
  have a4 := h.st
  have a5 := h.z
  refine h.step rfl rfl ?_ (by show P.written ≤ _; omega) (by show P.fetched ≤ _; omega) (pages_set h.pages X.num _) (fun q g hg => ?_) h.dmono h.room h.lok h.kept (by omega) (by omega) h.pg
  · show (if (P.F X.num).isSome = true then P.z else P.z + 1) ≤ 4
    split
    · exact a5
    · rename_i hs
      rcases hz with hz | hz
      · exfalso
        cases e : P.F X.num with
        | none => exact hz e
        | some f => rw [e] at hs; simp at hs
      · omega
  · rcases setFr_frs hg with ⟨rfl, rfl⟩ | hq
    · exact ⟨h1, h2, hF, rfl, hl⟩
    · exact h.frs q g hq

theorem RI.get {P : PG} {l : LG} {d : DG} {K : Nat} (h : RI P l d K) (X : SheetV) (hF : X.Fits) (h1 : 1 ≤ X.num) (h2 : X.num ≤ 20) (hl : X.lsn ≤ l.bytes.length) (hn : P.F X.num = none) (hz : P.z ≤ 3) : RI (getP P X) l d (K + 1) := by
  have a1 := h.wr
  have a2 := h.fe
  have a3 := h.len
  have a4 := h.st
  have hp := pages_set h.pages X.num ⟨X, 0⟩
  rw [hn] at hp
  refine h.step rfl rfl (by show P.z + 1 ≤ 4; omega) (by show P.written ≤ _; omega) (by show P.fetched + 1 ≤ _; omega) hp (fun q g hg => ?_) h.dmono h.room h.lok h.kept (by omega) (by omega) h.pg
  rcases setFr_frs hg with ⟨rfl, rfl⟩ | hq
  · exact ⟨h1, h2, hF, rfl, hl⟩
  · exact h.frs q g hq

def recT : ByteArray := ⟨#[114, 101, 99, 111, 114, 100]⟩

theorem putG_len (l : LG) : (putG l recT).bytes.length = l.bytes.length + 18 := by
  show (l.bytes ++ frameL (l.bytes.length + 1) recT.data.toList).length = _
  rw [List.length_append]
  have : (frameL (l.bytes.length + 1) recT.data.toList).length = 18 := by rw [frameL_length]; rfl
  omega

theorem RI.append {P : PG} {l : LG} {d : DG} {K : Nat} (h : RI P l d K) (hK : K ≤ 1000) : RI P (putG l recT) d (K + 1) := by
  have a1 := h.wr
  have a2 := h.fe
  have a3 := h.len
  have a4 := h.st
  have a5 := putG_len l
  have a6 := h.lok.fl
  refine h.step rfl rfl h.z (by omega) (by omega) h.pages (fun n f hf => ?_) h.dmono h.room ⟨h.lok.half, by show l.flushed ≤ _; omega, by omega, h.lok.at'⟩ h.kept (by omega) ?_ h.pg
  · obtain ⟨f1, f2, f3, f4, f5⟩ := h.frs n f hf
    exact ⟨f1, f2, f3, f4, by omega⟩
  · show (l.starts ++ [l.bytes.length + 1]).length ≤ _
    simp
    omega

end Go.Proofs.YtgmfgkdecpldeaaGreat

namespace Go.Proofs.YtgmfgkdecpldeaaGreat
open Go.RowKit Go.Sort Go.Shelf
set_option linter.unusedVariables false
set_option linter.unusedSimpArgs false

/-- Where PoolRules stands. -/
structure RuAt (w W : World) (p dp lp K : Nat) (A : Nat → Prop) (P : PG) (l : LG) (d : DG) : Prop where
  sys : Sys W p A P l d
  ri : RI P l d K
  dp' : P.dp = dp
  lp' : P.lp = lp
  new : ∀ k, A k → w.heap.size ≤ k
  bel : Below w.heap.size w W

section
variable {w W W' : World} {p dp lp K : Nat} {A : Nat → Prop} {P : PG} {l : LG} {d : DG}

theorem RuAt.below (h : RuAt w W p dp lp K A P l d) (b : Below W.heap.size W W') : RuAt w W' p dp lp K A P l d := ⟨h.sys.below b, h.ri, h.dp', h.lp', h.new, below_chain h.bel b⟩

theorem RuAt.moved (h : RuAt w W p dp lp K A P l d) {A' : Nat → Prop} {P' : PG} {l' : LG} {d' : DG} {K' : Nat} (hs : Sys W' p A' P' l' d') (hm : Moves A A' W W') (hr : RI P' l' d' K') (e1 : P'.dp = P.dp) (e2 : P'.lp = P.lp) : RuAt w W' p dp lp K' A' P' l' d' :=
  ⟨hs, hr, e1.trans h.dp', e2.trans h.lp', fun k x => by
    rcases hm.2 k x with y | y
    · exact h.new k y
    · have := h.bel.size; omega, below_kept h.bel hm.1 h.new⟩

/-- What a call leaves. -/
def RuOut (w : World) (p dp lp K : Nat) (w' : World) : Prop := ∃ A P l d, RuAt w w' p dp lp K A P l d

theorem ru_append (h : RuAt w W p dp lp K A P l d) (hK : K ≤ 1000) :
    Calls Tryz.prog 14 #[.pointer (some ⟨lp, 0, none⟩), .string ⟨#[114, 101, 99, 111, 114, 100]⟩] W fun e w' => e = .returned (.tuple #[.int .u64 ((l.bytes.length + 1 : Nat) : Int), .int .i64 0]) ∧ ∃ A', RuAt w w' p dp lp (K + 1) A' P (putG l recT) d := by
  have h1 := h.ri.len
  have h2 := h.ri.st
  have h3 := h.ri.kept
  have hsz : recT.size = 6 := rfl
  have := sys_append h.sys (by omega) (by omega) (by omega) recT (by omega) (by omega) (by omega)
  rw [h.lp'] at this
  refine this.mono ?_
  rintro e w' ⟨rfl, A', hs, hm⟩
  exact ⟨rfl, A', h.moved hs hm (h.ri.append hK) rfl rfl⟩

theorem ru_put (h : RuAt w W p dp lp K A P l d) (hK : K ≤ 999) (X : SheetV) (hF : X.Fits) (hsl : X.slots = []) (h1 : 1 ≤ X.num) (h2 : X.num ≤ 20) (hl : X.lsn ≤ l.bytes.length) :
    Calls Tryz.prog 15 #[.pointer (some ⟨p, 0, none⟩), X.val none 0] W fun e w' => e = .returned (.int .i64 0) ∧ RuOut w p dp lp (K + 2) w' := by
  have hX : X.Ok W none := hF.ok (.inl hsl)
  by_cases hn : P.F X.num = none
  · obtain ⟨P1, l1, d1, hr, hi, hz, hnn, hlb, e1, e2⟩ := h.ri.roomed (by omega)
    refine (poolPut_any h.sys X none 0 hX (fun b o e => by cases e) h1 (by omega) (encE_of hF) (fun _ => ⟨hr p, hnn _ hn⟩) (fun x => absurd hn x) (by omega)).mono ?_
    rintro e w' ⟨rfl, A', hs, hm⟩
    exact ⟨rfl, A', _, _, _, h.moved hs hm (hi.put X hF h1 h2 (by rw [hlb]; exact hl) (.inr hz)) e1 e2⟩
  · have hz := h.ri.z
    refine (poolPut_any (P1 := P) (l1 := l) (d1 := d) h.sys X none 0 hX (fun b o e => by cases e) h1 (by omega) (encE_of hF) (fun x => absurd x hn) (fun _ => ⟨rfl, rfl, rfl⟩) (by omega)).mono ?_
    rintro e w' ⟨rfl, A', hs, hm⟩
    exact ⟨rfl, A', _, _, _, h.moved hs hm (h.ri.put X hF h1 h2 hl (.inl hn)).more rfl rfl⟩

theorem ru_write (h : RuAt w W p dp lp K A P l d) (hK : K ≤ 999) (n : Nat) (h1 : 1 ≤ n) (h2 : n ≤ 20) :
    Calls Tryz.prog 16 #[.pointer (some ⟨p, 0, none⟩), .int .u32 n] W fun e w' => e = .returned (.int .i64 0) ∧ RuOut w p dp lp (K + 2) w' := by
  have hz := h.ri.z
  have hw := h.ri.wr
  cases hf : P.F n with
  | none =>
    refine (write_clean h.sys n (by omega) (by simp only [oldS, hf])).mono ?_
    rintro e w' ⟨rfl, b⟩
    have h' := h.below b
    exact ⟨rfl, A, P, l, d, ⟨h'.sys, h'.ri.more.more, h'.dp', h'.lp', h'.new, h'.bel⟩⟩
  | some f =>
    obtain ⟨S, B, hS, hSB⟩ := h.sys.dev
    refine (write_here hS h.ri.dok (by omega) h.ri.lok n h1 (by omega) hf (by rw [h.ri.room]; exact check64 h1 h2) (by omega) (by omega)).mono ?_
    rintro e w' ⟨rfl, B', hS', hm⟩
    have hm' : Moves A (fun k => S k ∨ B' k) W w' := ⟨hm.1.mono hSB, fun k x => by
      rcases hm.2 k x with y | y
      · exact .inl (hSB k y)
      · exact .inr y⟩
    exact ⟨rfl, _, _, _, _, h.moved hS'.sys hm' (h.ri.write (by omega) hf).more rfl rfl⟩

theorem ru_get (h : RuAt w W p dp lp K A P l d) (hK : K ≤ 999) (n : Nat) (h1 : 1 ≤ n) (h2 : n ≤ 20) :
    Calls Tryz.prog 21 #[.pointer (some ⟨p, 0, none⟩), .int .u32 n] W fun e w' => (∃ v, e = .returned v) ∧ RuOut w p dp lp (K + 2) w' := by
  cases hf : P.F n with
  | some f =>
    refine (get_here h.sys n h1 (by omega) hf).mono ?_
    rintro e w' ⟨a, c, rfl, _, b⟩
    have h' := h.below b
    exact ⟨⟨_, rfl⟩, A, P, l, d, ⟨h'.sys, h'.ri.more.more, h'.dp', h'.lp', h'.new, h'.bel⟩⟩
  | none =>
    obtain ⟨P1, l1, d1, hr, hi, hz, hnn, hlb, e1, e2⟩ := h.ri.roomed (by omega)
    obtain ⟨g1, g2⟩ := h.ri.fe_ok' h1 h2
    obtain ⟨g3, g4⟩ := fe_ok (d := d) (n := n) (by omega) g1
    have hsz : ∀ q, (readD d q).size ≤ 1000000 := fun q => by rw [h.ri.dok.read]; have := h.ri.dok.ok.sure q; omega
    have hfe := hi.fe
    refine (get_new h.sys n h1 (by omega) hf h.ri.dok.up hsz g1 (hr p) (hnn n hf) (by omega) (by omega)).mono ?_
    rintro e w' ⟨a, c, A', rfl, _, hs, hm, _⟩
    have hlk := h.ri.lok.fl
    exact ⟨⟨_, rfl⟩, A', _, _, _, h.moved hs hm (hi.get (feX d n) g4 (by omega) (by omega) (by rw [hlb]; omega) (by rw [g3]; exact hnn n hf) hz) e1 e2⟩

/-- A page is read from the disk. -/
theorem ru_read (h : RuAt w W p dp lp K A P l d) (n : Nat) (h1 : 1 ≤ n) (h2 : n ≤ 20) :
    Calls Tryz.prog 22 #[.pointer (some ⟨dp, 0, none⟩), .int .u32 n] W fun x w' => x = .returned (.tuple #[.string (readD d n), .int .i64 0]) ∧ Below W.heap.size W w' := by
  obtain ⟨D, hD, _⟩ := h.sys.disk
  rw [h.dp'] at hD
  exact read_out hD h.ri.dok.up n (by omega) (by rw [h.ri.room]; exact check64 h1 h2) (by rw [h.ri.dok.read]; have := h.ri.dok.ok.sure n; omega)

theorem ru_flushed (h : RuAt w W p dp lp K A P l d) (hK : K ≤ 1000) (q : Nat) :
    Calls Tryz.prog 24 #[.pointer (some ⟨lp, 0, none⟩)] (W.drewN q) fun e w' => e = .returned (.int .u64 ((l.flushed + 1 : Nat) : Int)) ∧ w' = W.drewN q := by
  obtain ⟨L, hL, _⟩ := h.sys.log
  rw [h.lp'] at hL
  have h1 := h.ri.len
  have h2 := h.ri.lok.fl
  exact flushed_out (hL.same (w' := W.drewN q) (fun _ _ => rfl) (Nat.le_refl _)) (by omega)

end

theorem i64_and31 (n : Int) : bits .and .i64 n 31 = n % 32 := by
  have h31 : (BitVec.ofInt 64 31).toNat = 2 ^ 5 - 1 := by decide
  have key : (BitVec.ofInt 64 n &&& BitVec.ofInt 64 31).toNat = (n % ((2 ^ 64 : Nat) : Int)).toNat % 2 ^ 5 := by
    rw [BitVec.toNat_and, BitVec.toNat_ofInt, h31, Nat.and_two_pow_sub_one_eq_mod]
  show IntKind.i64.wrap ((BitVec.ofInt 64 n &&& BitVec.ofInt 64 31).toNat : Nat) = n % 32
  rw [key, IntKind.wrap_i64]
  omega

theorem ru_start {w W : World} {p dp lp : Nat} {A : Nat → Prop} (h : Sys W p A (pool0 dp lp 4) (log0 dp) (newD 64)) (hn : ∀ k, A k → w.heap.size ≤ k) (b : Below w.heap.size w W) : RuAt w W p dp lp 0 A (pool0 dp lp 4) (log0 dp) (newD 64) := by
  refine ⟨h, ⟨rfl, rfl, by show 0 ≤ 4; omega, Nat.le_refl _, Nat.le_refl _, ⟨[], List.nodup_nil, rfl, fun n => ?_⟩, (fun n f e => by cases e), ⟨rfl, rfl, ⟨(fun x hx => by cases hx), (fun q => zerosS_size), by show 0 + 0 ≤ _; omega, by show 0 ≤ _; omega, Nat.le_refl _⟩, rfl, (fun q => rfl), by show 0 ≤ 10; omega, Nat.le_refl _, Nat.le_refl _⟩, rfl, ⟨rfl, Nat.le_refl _, by show 0 ≤ _; omega, rfl⟩, rfl, by show 0 ≤ _; omega, Nat.le_refl _, fun n _ _ => ⟨.inl rfl, .inl rfl⟩⟩, rfl, rfl, hn, b⟩
  constructor
  · intro x; cases x
  · intro x; exact absurd rfl x

end Go.Proofs.YtgmfgkdecpldeaaGreat

namespace Go.Proofs.YtgmfgkdecpldeaaGreat
open Go.RowKit Go.Sort Go.Shelf
set_option linter.unusedVariables false
set_option linter.unusedSimpArgs false

/-- The kinds and the pages of acts that came in. -/
def ArgKp (w : World) (a : Option Addr) (n : Nat) (A : Nat → Int × Int) : Prop :=
  n = 0 ∨ ∃ b o, a = some ⟨b, o, none⟩ ∧ b < w.heap.size ∧ ∀ i, i < n → w.cell? ⟨b, o + i * 9, none⟩ = some (.int .i64 (A i).1) ∧ w.cell? ⟨b, o + i * 9 + 1, none⟩ = some (.int .i64 (A i).2)

theorem RuOut.more {w w' : World} {p dp lp K : Nat} (h : RuOut w p dp lp K w') : RuOut w p dp lp (K + 1) w' := by
  obtain ⟨A, P, l, d, h⟩ := h
  exact ⟨A, P, l, d, ⟨h.sys, h.ri.more, h.dp', h.lp', h.new, h.bel⟩⟩

set_option maxHeartbeats 3200000 in
set_option maxRecDepth 20000 in
theorem rules_walk (w : World) (a : Option Addr) (len cap : Nat) (Ac : Nat → Int × Int) (hA : ArgKp w a len Ac) (hl : len ≤ cap) (hcap : cap ≤ 9223372036854775807) :
    Calls Tryz.prog 5 #[.slice a len cap] w fun e w' => e = .returned (.bool true) ∧ Below w.heap.size w w' := by
  have HB : Hid (Calls Tryz.prog 8 #[.int .i64 64, .int .i64 4] w (BgOut w 64 4)) := begun_any w 64 4 (by omega) (by omega) (by omega) (by omega)
  have HARG := hid hA
  clear hA
  go_enter Tryz.func5, Tryz.ntmps5
  go_wp2_with fail
  refine HB.out.mono ?_
  rintro e w1 ⟨dp, lp, p, A, rfl, hS, hA, b1⟩
  have HR1 : Hid (RuAt w w1 p dp lp 0 A (pool0 dp lp 4) (log0 dp) (newD 64)) := ru_start hS hA b1
  clear hS hA b1 HB
  go_wp2_with fail
  refine (pawake_any _).mono ?_
  rintro e w2 ⟨rfl, b2⟩
  have HR2 : Hid (RuOut w p dp lp (3 * 0) w2) := ⟨A, _, _, _, HR1.out.below b2⟩
  clear HR1 b2
  go_wp2_with fail
  go_loopw [6] (fun i wr => ∃ k : Nat, i = .int .i64 k ∧ k ≤ 60 ∧ k ≤ len ∧ Hid (RuOut w p dp lp (3 * k) wr)) (fun i _ => 60 - (intOf i).toNat)
  case atStart => exact ⟨0, rfl, by omega, by omega, HR2⟩
  case round =>
    clear HR2
    obtain ⟨k, rfl, hk60, hkl, HR⟩ := hrel
    by_cases hgo : k < len ∧ k < 60
    · obtain ⟨hk1, hk2⟩ := hgo
      have hk1' : (k : Int) < len := by omega
      have hk2' : (k : Int) < 60 := by omega
      obtain ⟨A, P, l, d, hR⟩ := HR.out
      obtain ⟨b, o, rfl, hb, hact⟩ : ∃ b o, a = some ⟨b, o, none⟩ ∧ b < w.heap.size ∧ ∀ i, i < len → w.cell? ⟨b, o + i * 9, none⟩ = some (.int .i64 (Ac i).1) ∧ w.cell? ⟨b, o + i * 9 + 1, none⟩ = some (.int .i64 (Ac i).2) := by
        rcases HARG.out with e | e
        · omega
        · exact e
      obtain ⟨q0, q1⟩ := hact k hk1
      have e := hR.bel.block b hb
      have y0 := (World.cell?_of_block (w := w) (a := ⟨b, o + k * 9, none⟩) e).trans q0
      have y1 := (World.cell?_of_block (w := w) (a := ⟨b, o + k * 9 + 1, none⟩) e).trans q1
      obtain ⟨kd, hkd⟩ : ∃ kd, (Ac k).1 = kd := ⟨_, rfl⟩
      obtain ⟨x, hx⟩ : ∃ x, (Ac k).2 = x := ⟨_, rfl⟩
      rw [hkd] at y0
      rw [hx] at y1
      clear q0 q1 hact e hkd hx
      obtain ⟨r, hr, hr2⟩ : ∃ r : Nat, bits .and .i64 x 31 = (r : Int) ∧ r < 32 := ⟨(x % 32).toNat, by rw [i64_and31]; omega, by omega⟩
      obtain ⟨t, ht, ht2⟩ : ∃ t : Nat, t = r % 20 ∧ t < 20 := ⟨r % 20, rfl, by omega⟩
      have htm : ((r : Int)).tmod 20 = (t : Int) := by rw [Int.tmod_eq_emod_of_nonneg (by omega)]; omega
      have hem : ((r : Int)) % 20 = (t : Int) := by omega
      have HRR := hid hR
      clear hR HR ht
      have hn1 : 1 ≤ t + 1 := by omega
      have hn2 : t + 1 ≤ 20 := by omega
      have HAP := hid (ru_append HRR.out (by omega))
      have HWR := hid (ru_write HRR.out (by omega) (t + 1) hn1 hn2)
      have HGE := hid (ru_get HRR.out (by omega) (t + 1) hn1 hn2)
      rw [show ((t + 1 : Nat) : Int) = (t : Int) + 1 by omega] at HWR HGE
      have HPU : Hid (∀ W A', RuAt w W p dp lp (3 * k + 1) A' P (putG l recT) d → Calls Tryz.prog 15 #[.pointer (some ⟨p, 0, none⟩), .agg #[.int .u32 ((t : Int) + 1), .int .u64 ((l.bytes.length + 1 : Nat) : Int), .int .i64 2, .string ⟨#[]⟩, .slice none 0 0]] W fun e w' => e = .returned (.int .i64 0) ∧ RuOut w p dp lp (3 * k + 1 + 2) w') := fun W A' h => by
        have hlen := HRR.out.ri.len
        have hpl := putG_len l
        have := ru_put h (by omega) ⟨t + 1, l.bytes.length + 1, 2, ⟨#[]⟩, []⟩ ⟨by show t + 1 < _; omega, by show l.bytes.length + 1 < _; omega, by show (0 : Int) ≤ 2; omega, by show (2 : Int) ≤ 255; omega, by show 0 ≤ 32; omega, by show 0 ≤ 64; omega, by show 0 + 0 ≤ 485; omega⟩ rfl hn1 hn2 (by show l.bytes.length + 1 ≤ _; omega)
        exact this
      clear HRR
      go_upto_block 2 with fail
      clear hr htm hem y1
      go_cut [8, 9] from 54 to 76 (fun v8 v9 wx => Hid (RuOut w p dp lp (3 * (k + 1)) wx))
      case first =>
        by_cases c0 : kd = 0 ∨ kd = 1 ∨ kd = 2
        · clear HWR HGE
          have HPP : Hid (∀ w', RuOut w p dp lp (3 * k + 1 + 2) w' → RuOut w p dp lp (3 * (k + 1)) w') := fun w' h => by rw [show 3 * (k + 1) = 3 * k + 1 + 2 by omega]; exact h
          rcases c0 with rfl | rfl | rfl
          all_goals
            go_wp2_with fail
            refine HAP.out.mono ?_
            rintro e w3 ⟨rfl, A3, h3⟩
            have HP3 := hid (HPU.out w3 A3 h3)
            clear h3
            go_wp2_with fail
            refine HP3.out.mono ?_
            rintro e w4 ⟨rfl, h4⟩
            have H4 := hid (HPP.out w4 h4)
            clear h4 HP3
            go_wp2_with fail
            go_meet
            case rel => exact H4
        · have d0 : ¬ kd = 0 := fun e => c0 (.inl e)
          have d1 : ¬ kd = 1 := fun e => c0 (.inr (.inl e))
          have d2 : ¬ kd = 2 := fun e => c0 (.inr (.inr e))
          have HPP : Hid (∀ w', RuOut w p dp lp (3 * k + 2) w' → RuOut w p dp lp (3 * (k + 1)) w') := fun w' h => h.more
          clear c0 HAP HPU
          by_cases c3 : kd = 3
          · subst c3
            go_wp2_with fail
            refine HWR.out.mono ?_
            rintro e w4 ⟨rfl, h4⟩
            have H4 := hid (HPP.out w4 h4)
            clear h4 HWR HGE
            go_wp2_with fail
            go_meet
            case rel => exact H4
          · go_wp2_with fail
            refine HGE.out.mono ?_
            rintro e w4 ⟨⟨v, rfl⟩, h4⟩
            have H4 := hid (HPP.out w4 h4)
            clear h4 HWR HGE
            go_wp2_with fail
            go_meet
            case rel => exact H4
      case rest =>
        have HC := hcut
        clear HAP HWR HGE HPU y0
        clear hcut
        go_wp2_with fail
        go_loopw [10] (fun v ws => ∃ q : Nat, v = .int .u32 q ∧ 1 ≤ q ∧ q ≤ 21 ∧ Hid (RuOut w p dp lp (3 * (k + 1)) ws)) (fun v _ => 21 - (intOf v).toNat)
        case atStart => exact ⟨1, rfl, by omega, by omega, HC⟩
        case round =>
          clear HC
          obtain ⟨q, rfl, hq1, hq2, HC⟩ := hrel
          by_cases hq : q ≤ 20
          · have hq' : (q : Int) ≤ 20 := by omega
            obtain ⟨A5, P5, l5, d5, hR5⟩ := HC.out
            have hp5 := (hR5.ri.pg q hq1 hq).1.dec
            have HRD := hid (ru_read hR5 q hq1 hq)
            have hs512 : (readD d5 q).size = 512 := by rw [hR5.ri.dok.read]; exact hR5.ri.dok.ok.sure q
            have HDE : Hid (∀ W, Calls Tryz.prog 23 #[.string (readD d5 q)] W fun x w' => ∃ a c, x = .returned (.tuple #[(decP (readD d5 q)).val a c, .int .i64 0]) ∧ StrsFrom W.heap.size w' a (decP (readD d5 q)).slots ∧ Below W.heap.size W w') := fun W => by
              have := decode_any (readD d5 q) W (by unfold maxLen; omega)
              rw [hp5.1] at this
              exact this
            have hlsn := hp5.2.2
            clear hp5 hs512
            generalize decP (readD d5 q) = X at *
            generalize readD d5 q = s5 at *
            have HR5 := hid hR5
            clear hR5 HC
            go_wp2_with fail
            refine HRD.out.mono ?_
            rintro e w5 ⟨rfl, b5⟩
            go_wp2_with fail
            refine (HDE.out _).mono ?_
            rintro e w6 ⟨a6, c6, rfl, _, b6⟩
            have HV : Hid (X.val a6 c6 = .agg #[.int .u32 X.num, .int .u64 X.lsn, .int .i64 X.kind, .string X.head, .slice a6 X.slots.length c6]) := rfl
            rw [HV.out]
            obtain ⟨W7, HW7⟩ : ∃ W7, Hid (W7 = w6.alloc (.cells #[.int .u32 X.num, .int .u64 X.lsn, .int .i64 X.kind, .string X.head, .slice a6 X.slots.length c6] 56)) := ⟨_, rfl⟩
            have b7 : Below w6.heap.size w6 W7 := by rw [HW7.out]; exact (Below.refl _ _).alloc (Nat.le_refl _) _
            have kx : Blk W7 w6.heap.size (X.arr a6 c6) 56 := by rw [HW7.out]; exact Blk.made w6 _ _
            have x1 : W7.cell? ⟨w6.heap.size, 1, none⟩ = some (.int .u64 X.lsn) := kx.cell 1
            have hR7 := ((HR5.out.below b5).below b6).below b7
            have HFL : Hid (∀ q, Calls Tryz.prog 24 #[.pointer (some ⟨lp, 0, none⟩)] (W7.drewN q) fun e w' => e = .returned (.int .u64 ((l5.flushed + 1 : Nat) : Int)) ∧ w' = W7.drewN q) := fun q => ru_flushed hR7 (by omega) q
            obtain ⟨FL, hFL⟩ : ∃ FL : Nat, FL = l5.flushed + 1 := ⟨_, rfl⟩
            rw [← hFL] at HFL
            have hge : decide ((FL : Int) ≤ (X.lsn : Int)) = false := by rw [decide_eq_false_iff_not]; omega
            have hge2 : decide (FL ≤ X.lsn) = false := by rw [decide_eq_false_iff_not]; omega
            clear hFL
            have H7 : Hid (RuOut w p dp lp (3 * (k + 1)) W7) := ⟨_, _, _, _, hR7⟩
            clear HRD HDE HR5 b5 b6 b7 kx hR7 HV
            go_upto_region 23 with fail
            rw [← HW7.out]
            go_quiet ((go_at_call 24; exact Calls.quiet_of_same (HFL.out _)))
            go_wp2_with fail
            go_roundw
            case rel =>
              refine ⟨q + 1, by go_num, by omega, by omega, ?_⟩
              obtain ⟨A, P, l, d, h⟩ := H7.out
              exact ⟨A, P, l, d, ⟨h.sys.drewN nq, h.ri, h.dp', h.lp', h.new, ⟨h.bel.os, h.bel.tape, h.bel.output, h.bel.size, h.bel.block⟩⟩⟩
            case measure => simp [intOf]; omega
          · have hq' : ¬ (q : Int) ≤ 20 := by omega
            go_wp2_with fail
            go_roundw
            case rel => exact ⟨k + 1, by go_num, by omega, by omega, HC⟩
            case measure => simp [intOf]; omega
    · obtain ⟨A, P, l, d, hR⟩ := HR.out
      have HBW := hid hR.bel
      clear hR
      by_cases hk1 : k < len
      · have hk1' : (k : Int) < len := by omega
        have hk2' : ¬ (k : Int) < 60 := by omega
        go_wp2
        go_ret
        exact ⟨rfl, HBW.out⟩
      · have hk1' : ¬ (k : Int) < len := by omega
        go_wp2
        go_ret
        exact ⟨rfl, HBW.out⟩

end Go.Proofs.YtgmfgkdecpldeaaGreat

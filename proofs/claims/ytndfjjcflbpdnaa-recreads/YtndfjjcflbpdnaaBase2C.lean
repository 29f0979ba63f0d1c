/-
  The walks of the sum: what raw.shiftByte, raw.More, raw.Sum and girderref01.More return, for every register and every text.
  Texts in memory, pages as plain data, and the walks of page.Room, page.Blank, page.zeros.
  The laying of a contract of the library's shelf at this program's numbers (plain text by the library's own command).
  The laying of a contract of the library's shelf at this program's numbers (plain text by the library's own command).
  Plain mathematics of a page's bytes, and the walks of page.putSlots and page.zeros.
  The walk of page.Encode.
  The walk of page.Encode, of a page that fits.
  Rows of values that may be written; the walks of page.zeros and page.takeCount.
  The walk of page.takeSlots.
  The walk of page.parse.
  The walk of page.Decode.
  The walk of page.Decode behind the LSN's test.
  Plain mathematics: what Decode finds in the bytes that Encode makes.
  The walks of page.Same, girderref03.Same, girderlaw03.ref, girderlaw03.same, page.Kind, girderref03.Turned.
  Plain mathematics: Decode of Encode is the page.
  The walks of girderlaw03.ref, girderref03.Same, girderlaw03.same, page.Kind, girderref03.Turned.
  The walk of girderlaw03.same.
  Encode and Decode whole; girderlaw03.awake.
-/
import Derived.Test.YtndfjjcflbpdnaaProg
import Derived.Test.YtndfjjcflbpdnaaBase1C
import Derived.WalkKit
import Derived.WalkSpells
import Derived.WalkLawsBesides
import Derived.Test.YtndfjjcflbpdnaaGetWalksC
import Derived.SliceStrings
import Derived.BigQuiet
import Derived.Deep.QuietTactic
import Derived.Shelf.Slices.Equal
import Derived.Shelf.Lays
import Derived.Shelf.Strings.Repeat
import Derived.Test.YtndfjjcflbpdnaaWriterWalksC
import Derived.Test.YtndfjjcflbpdnaaReaderMoreC
import Derived.Test.YtndfjjcflbpdnaaNewReaderC
import Derived.Deep.RegionHeld3
import Derived.Shelf.Slices.Empties2
import Derived.Lib.QuietBelow
namespace Go.Proofs.Ytndfjjcflbpdnaa
open Go.RowKit



theorem take_snoc (s : ByteArray) (k : Nat) (h : k < s.size) : s.data.toList.take (k + 1) = s.data.toList.take k ++ [s[k]] := by
  rw [List.take_succ_eq_append_getElem (by simpa using h)]; rfl






end Go.Proofs.Ytndfjjcflbpdnaa

namespace Go.Proofs.Ytndfjjcflbpdnaa
open Go.RowKit
set_option linter.unusedVariables false

/-- The texts L lie one behind the other from a on. -/
def StrsAt (w : World) (a : Option Addr) (L : List ByteArray) : Prop :=
  L = [] ∨ ∃ b o, a = some ⟨b, o, none⟩ ∧ b < w.heap.size ∧ ∀ i (hi : i < L.length), w.cell? ⟨b, o + i, none⟩ = some (.string L[i])

theorem StrsAt.nil (w : World) (a : Option Addr) : StrsAt w a [] := .inl rfl

theorem StrsAt.below {w w' : World} {a : Option Addr} {L : List ByteArray} (h : StrsAt w a L) (k : Below w.heap.size w w') : StrsAt w' a L := by
  rcases h with h | ⟨b, o, e, hb, hc⟩
  · exact .inl h
  · exact .inr ⟨b, o, e, Nat.lt_of_lt_of_le hb k.size, fun i hi => (k.cell (p := ⟨b, o + i, none⟩) hb).trans (hc i hi)⟩

theorem StrsAt.belowB {w w' : World} {B : Nat} {b o : Nat} {L : List ByteArray} (h : StrsAt w (some ⟨b, o, none⟩) L) (k : Below B w w') (hb : b < B) : StrsAt w' (some ⟨b, o, none⟩) L := by
  rcases h with h | ⟨b', o', e, hb', hc⟩
  · exact .inl h
  · cases e
    exact .inr ⟨b, o, rfl, Nat.lt_of_lt_of_le hb' k.size, fun i hi => (k.cell (p := ⟨b, o + i, none⟩) hb).trans (hc i hi)⟩

/-- A page as plain data. -/
structure SheetV where
  num : Nat
  lsn : Nat
  kind : Int
  head : ByteArray
  slots : List ByteArray

/-- A page as a value, its slots from a on. -/
def SheetV.val (p : SheetV) (a : Option Addr) (c : Nat) : Value := .agg #[.int .u32 p.num, .int .u64 p.lsn, .int .i64 p.kind, .string p.head, .slice a p.slots.length c]

/-- What the slots take. -/
def slotSum : List ByteArray → Nat
  | [] => 0
  | s :: L => 2 + s.size + slotSum L

theorem slotSum_append (L M : List ByteArray) : slotSum (L ++ M) = slotSum L + slotSum M := by
  induction L with
  | nil => simp [slotSum]
  | cons s L ih => simp only [List.cons_append, slotSum, ih]; omega

theorem slotSum_snoc (L : List ByteArray) (k : Nat) (h : k < L.length) : slotSum (L.take (k + 1)) = slotSum (L.take k) + (2 + L[k].size) := by
  rw [List.take_succ_eq_append_getElem h, slotSum_append]; simp [slotSum]

/-- The bytes that are left. -/
def roomF (p : SheetV) : Int := IntKind.i64.wrap (485 - (p.head.size : Int) - (slotSum p.slots : Int))

theorem wrap_sub (x y : Int) : IntKind.i64.wrap (IntKind.i64.wrap x - y) = IntKind.i64.wrap (x - y) := by
  simp only [IntKind.wrap_i64]; omega

theorem wrap_small {x : Int} (h1 : -9223372036854775808 ≤ x) (h2 : x ≤ 9223372036854775807) : IntKind.i64.wrap x = x := by
  rw [IntKind.wrap_i64]; omega



end Go.Proofs.Ytndfjjcflbpdnaa

namespace Go.Proofs.Ytndfjjcflbpdnaa
open Go.Shelf



end Go.Proofs.Ytndfjjcflbpdnaa

namespace Go.Proofs.Ytndfjjcflbpdnaa
open Go.Shelf Go.RowKit





theorem repeatL_one_zero (n : Nat) : Lib.repeatL [0] n = List.replicate n (0 : UInt8) := by
  induction n with
  | zero => rfl
  | succ n ih => rw [List.replicate_succ, ← ih]; rfl



end Go.Proofs.Ytndfjjcflbpdnaa

namespace Go.Proofs.Ytndfjjcflbpdnaa
open Go.RowKit
set_option linter.unusedVariables false

/-- The lengths of slots. -/
def slotLens : List ByteArray → List UInt8
  | [] => []
  | s :: L => putL s.size 2 ++ slotLens L

/-- The bytes of slots. -/
def slotBytes : List ByteArray → List UInt8
  | [] => []
  | s :: L => s.data.toList ++ slotBytes L

theorem slotLens_append (L M : List ByteArray) : slotLens (L ++ M) = slotLens L ++ slotLens M := by
  induction L with
  | nil => rfl
  | cons s L ih => simp only [List.cons_append, slotLens, ih, List.append_assoc]

theorem slotBytes_append (L M : List ByteArray) : slotBytes (L ++ M) = slotBytes L ++ slotBytes M := by
  induction L with
  | nil => rfl
  | cons s L ih => simp only [List.cons_append, slotBytes, ih, List.append_assoc]

theorem slotLens_snoc (L : List ByteArray) (k : Nat) (h : k < L.length) : slotLens (L.take (k + 1)) = slotLens (L.take k) ++ putL L[k].size 2 := by
  rw [List.take_succ_eq_append_getElem h, slotLens_append]; simp [slotLens]

theorem slotBytes_snoc (L : List ByteArray) (k : Nat) (h : k < L.length) : slotBytes (L.take (k + 1)) = slotBytes (L.take k) ++ L[k].data.toList := by
  rw [List.take_succ_eq_append_getElem h, slotBytes_append]; simp [slotBytes]

theorem slotLens_length (L : List ByteArray) : (slotLens L).length = 2 * L.length := by
  induction L with
  | nil => rfl
  | cons s L ih => simp only [slotLens, List.length_append, putL_length, ih, List.length_cons]; omega

theorem slot_lengths (L : List ByteArray) : (slotLens L).length + (slotBytes L).length = slotSum L := by
  induction L with
  | nil => rfl
  | cons s L ih =>
    have : s.data.toList.length = s.size := by simp
    simp only [slotLens, slotBytes, slotSum, List.length_append, putL_length]; omega

theorem slotSum_take (L : List ByteArray) (k : Nat) : slotSum (L.take k) ≤ slotSum L := by
  conv => rhs; rw [← List.take_append_drop k L, slotSum_append]
  omega

theorem slotSum_at (L : List ByteArray) (k : Nat) (h : k < L.length) : 2 + L[k].size ≤ slotSum L := by
  have := slotSum_snoc L k h
  have := slotSum_take L (k + 1)
  omega

theorem slotSum_len (L : List ByteArray) : 2 * L.length ≤ slotSum L := by
  have := slotLens_length L
  have := slot_lengths L
  omega

/-- A page's bytes without the zeros, from the LSN on. -/
def bodyL (p : SheetV) : List UInt8 :=
  putL p.lsn 8 ++ putL p.num 4 ++ putL p.kind.toNat 1 ++ putL p.head.size 1 ++ p.head.data.toList ++ putL p.slots.length 1 ++ slotLens p.slots ++ slotBytes p.slots

/-- All but the sum. -/
def restL (p : SheetV) : List UInt8 := bodyL p ++ List.replicate (485 - p.head.size - slotSum p.slots) 0 ++ putL p.lsn 8

/-- A page's bytes. -/
def encL (p : SheetV) : List UInt8 := putL (crcSum 0 (restL p)) 4 ++ restL p

theorem bodyL_length (p : SheetV) : (bodyL p).length = 15 + p.head.size + slotSum p.slots := by
  have := slot_lengths p.slots
  have : p.head.data.toList.length = p.head.size := by simp
  simp only [bodyL, List.length_append, putL_length]; omega

theorem restL_length (p : SheetV) (h : p.head.size + slotSum p.slots ≤ 485) : (restL p).length = 508 := by
  simp only [restL, List.length_append, bodyL_length, putL_length, List.length_replicate]; omega

theorem encL_length (p : SheetV) (h : p.head.size + slotSum p.slots ≤ 485) : (encL p).length = 512 := by
  simp only [encL, List.length_append, restL_length p h, putL_length]

/-- The error of Encode. -/
def encE (p : SheetV) : Int := if p.kind < 0 ∨ 255 < p.kind ∨ 32 < p.head.size ∨ 64 < p.slots.length then 1 else if 485 < p.head.size + slotSum p.slots then 30 else 0

section
variable {w0 w : World} {b : Nat} {l : List UInt8} {a : Option Addr} {c : Nat}

theorem StrsAt.reach {L : List ByteArray} {s : Option Addr} (hm : StrsAt w0 s L) (h0 : Below w0.heap.size w0 w) {k : Nat} (hk : k < L.length) :
    ∃ bs o, s = some ⟨bs, o, none⟩ ∧ w.cell? ⟨bs, o + k, none⟩ = some (.string L[k]) := by
  rcases hm with hm | ⟨bs, o, rfl, hb, hc⟩
  · subst hm; simp at hk
  · exact ⟨bs, o, rfl, (h0.cell (p := ⟨bs, o + k, none⟩) hb).trans (hc k hk)⟩



end
end Go.Proofs.Ytndfjjcflbpdnaa

namespace Go.Proofs.Ytndfjjcflbpdnaa
open Go.RowKit
set_option linter.unusedVariables false

/-- What is known of a page that was handed in: its parts' sizes, its slots' place. -/
structure SheetV.Ok (p : SheetV) (w : World) (a : Option Addr) : Prop where
  num : p.num < 4294967296
  lsn : p.lsn < 18446744073709551616
  kind : -9223372036854775808 ≤ p.kind ∧ p.kind ≤ 9223372036854775807
  head : p.head.size ≤ 140737488351232
  len : p.slots.length ≤ 8796093021952
  slots : ∀ s ∈ p.slots, s.size ≤ 140737488351232
  mem : StrsAt w a p.slots

theorem SheetV.Ok.below {p : SheetV} {w w' : World} {a : Option Addr} (h : p.Ok w a) (k : Below w.heap.size w w') : p.Ok w' a :=
  ⟨h.num, h.lsn, h.kind, h.head, h.len, h.slots, h.mem.below k⟩



theorem slotSum_le (L : List ByteArray) (hn : L.length ≤ 64) (hs : ∀ s ∈ L, s.size ≤ 140737488351232) : slotSum L ≤ 64 * 140737488351234 := by
  have : ∀ M : List ByteArray, (∀ s ∈ M, s.size ≤ 140737488351232) → slotSum M ≤ M.length * 140737488351234 := by
    intro M
    induction M with
    | nil => intro _; simp [slotSum]
    | cons s M ih =>
      intro h
      have h1 := h s (by simp)
      have h2 := ih (fun x hx => h x (by simp [hx]))
      simp only [slotSum, List.length_cons, Nat.add_mul]
      omega
  exact Nat.le_trans (this L hs) (Nat.mul_le_mul_right _ hn)

theorem roomF_eq {p : SheetV} {w : World} {a : Option Addr} (h : p.Ok w a) (hn : p.slots.length ≤ 64) : roomF p = 485 - (p.head.size : Int) - (slotSum p.slots : Int) := by
  have h1 := slotSum_le p.slots hn h.slots
  have h2 := h.head
  exact wrap_small (by omega) (by omega)





/-- A box of five cells is read as it was laid. -/
theorem box5 {w wX : World} {v0 v1 v2 v3 v4 : Value} {T : TypeId} (hb : Below (w.heap.size + 1) (w.alloc (.cells #[v0, v1, v2, v3, v4] T)) wX) :
    wX.cell? ⟨w.heap.size, 0, none⟩ = some v0 ∧ wX.cell? ⟨w.heap.size, 1, none⟩ = some v1 ∧ wX.cell? ⟨w.heap.size, 2, none⟩ = some v2 ∧ wX.cell? ⟨w.heap.size, 3, none⟩ = some v3 ∧ wX.cell? ⟨w.heap.size, 4, none⟩ = some v4 :=
  ⟨(hb.cell (p := ⟨w.heap.size, 0, none⟩) (by simp)).trans (by simp), (hb.cell (p := ⟨w.heap.size, 1, none⟩) (by simp)).trans (by simp), (hb.cell (p := ⟨w.heap.size, 2, none⟩) (by simp)).trans (by simp),
    (hb.cell (p := ⟨w.heap.size, 3, none⟩) (by simp)).trans (by simp), (hb.cell (p := ⟨w.heap.size, 4, none⟩) (by simp)).trans (by simp)⟩

theorem wnumber_is {w : World} {b : Nat} {l : List UInt8} {a : Option Addr} {c : Nat} (h : IsWriter w b l a c) (n k : Nat) (hn : n < 18446744073709551616) (hk : k ≤ 8) (hl : l.length + 8 ≤ 140737488355328) :
    Calls Try.prog 52 #[.pointer (some ⟨b, 0, none⟩), .int .u64 n, .int .i64 k] w fun y w' =>
      y = .returned (.tuple #[]) ∧ (∃ a' c', IsWriter w' b (l ++ putL n k) a' c') ∧ Below b w w' := by
  have := wnumber_any h n k hn hl
  rw [show longOf (k : Int) = k from by unfold longOf; omega] at this
  exact this

end Go.Proofs.Ytndfjjcflbpdnaa

namespace Go.Proofs.Ytndfjjcflbpdnaa
open Go.RowKit
set_option linter.unusedVariables false



end Go.Proofs.Ytndfjjcflbpdnaa

namespace Go.Proofs.Ytndfjjcflbpdnaa
open Go.RowKit
set_option linter.unusedVariables false

/-- A row of N values that may be written: cell j holds f j. -/
def RowV (w : World) (b N : Nat) (f : Nat → Value) : Prop :=
  ∀ j, j < N → w.cell? ⟨b, j, none⟩ = some (f j) ∧ w.frozen? ⟨b, j, none⟩ = false

theorem RowV.congr {w : World} {b N : Nat} {f g : Nat → Value} (h : RowV w b N f) (e : ∀ j, j < N → f j = g j) : RowV w b N g :=
  fun j hj => by rw [← e j hj]; exact h j hj

theorem RowV.set {w : World} {b N : Nat} {f : Nat → Value} (h : RowV w b N f) {k : Nat} (hk : k < N) (v : Value) :
    RowV (w.setCell ⟨b, k, none⟩ v) b N (fun j => if j = k then v else f j) := by
  intro j hj
  refine ⟨?_, by rw [World.frozen?_setCell]; exact (h j hj).2⟩
  by_cases e : j = k
  · subst e; simp only [if_pos]; exact World.cell?_setCell_same _ _ _ (h j hj).1
  · simp only [if_neg e]; rw [World.cell?_setCell_other _ _ _ _ (by intro q; exact e (by simpa using q.symm))]; exact (h j hj).1

theorem RowV.set_other {w : World} {b N : Nat} {f : Nat → Value} (h : RowV w b N f) {b' k : Nat} (hk : b' ≠ b) (v : Value) : RowV (w.setCell ⟨b', k, none⟩ v) b N f := by
  intro j hj
  refine ⟨?_, by rw [World.frozen?_setCell]; exact (h j hj).2⟩
  rw [World.cell?_setCell_other _ _ _ _ (by intro q; exact hk (by simpa using congrArg Addr.block q))]; exact (h j hj).1

theorem RowV.made (w : World) (N : Nat) (z : Value) (hz : z.cells = #[z]) (t : TypeId) : RowV (w.alloc (.cells (madeCells #[z] N) t)) w.heap.size N (fun _ => z) := by
  intro j hj
  refine ⟨?_, by simp⟩
  rw [World.cell?_alloc_new]
  have h : (madeCells #[z] N).toList[j]? = some z := by
    rw [toList_madeCells_one]; simp [hj]
  simpa using h

theorem RowV.below {w w' : World} {b N : Nat} {f : Nat → Value} (h : RowV w b N f) {B : Nat} (k : Below B w w') (hb : b < B) : RowV w' b N f :=
  fun j hj => ⟨(k.cell (p := ⟨b, j, none⟩) hb).trans (h j hj).1, (k.frozen (p := ⟨b, j, none⟩) hb).trans (h j hj).2⟩

theorem Only.frozen {b : Nat} {w w' : World} (h : Only b w w') {p : Addr} (hp : p.block < w.heap.size) (hb : p.block ≠ b) : w'.frozen? p = w.frozen? p := World.frozen?_of_block (w := w) (h.block p.block hp hb)

theorem RowV.only {w w' : World} {b N : Nat} {f : Nat → Value} (h : RowV w b N f) {r : Nat} (k : Only r w w') (hb : b < w.heap.size) (hr : b ≠ r) : RowV w' b N f :=
  fun j hj => ⟨(k.cell (p := ⟨b, j, none⟩) hb hr).trans (h j hj).1, (k.frozen (p := ⟨b, j, none⟩) hb hr).trans (h j hj).2⟩

theorem Only.setNew {b : Nat} {w w' : World} (h : Only b w w') {k : Nat} (hk : w.heap.size ≤ k) (i : Nat) (v : Value) : Only b w (w'.setCell ⟨k, i, none⟩ v) :=
  ⟨h.os, h.tape, h.output, by simpa using h.size, fun j hj hb => (Below.heap_setCell _ _ _ _ (by simp; omega)).trans (h.block j hj hb)⟩

theorem IsReader.setOther {w : World} {b : Nat} {s : ByteArray} {p : Nat} {e : Int} (h : IsReader w b s p e) {k i : Nat} (hk : k ≠ b) (v : Value) : IsReader (w.setCell ⟨k, i, none⟩ v) b s p e := by
  have ne : ∀ o, (⟨k, i, none⟩ : Addr) ≠ ⟨b, o, none⟩ := fun o q => hk (congrArg Addr.block q)
  exact ⟨by rw [World.cell?_setCell_other _ _ _ _ (ne 0)]; exact h.c0, by rw [World.cell?_setCell_other _ _ _ _ (ne 1)]; exact h.c1, by rw [World.cell?_setCell_other _ _ _ _ (ne 2)]; exact h.c2,
    by rw [World.frozen?_setCell]; exact h.f1, by rw [World.frozen?_setCell]; exact h.f2, h.le, h.sz, by simpa using h.lt⟩

theorem infoInt : (Try.prog.info? 3).map (fun i => (i.zero, i.size, i.bytes)) = some (some (.int .i64 0), 1, 8) := by kernel_rfl
theorem infoStr : (Try.prog.info? 9).map (fun i => (i.zero, i.size, i.bytes)) = some (some (.string ⟨#[]⟩), 1, 16) := by kernel_rfl

/-- Are all bytes zeros? -/
def zerosB (l : List UInt8) : Bool := l.all fun x => x == 0

theorem zerosB_iff (l : List UInt8) : zerosB l = true ↔ l = List.replicate l.length 0 := by
  unfold zerosB
  induction l with
  | nil => simp
  | cons x l ih => simp only [List.all_cons, List.length_cons, List.replicate_succ, Bool.and_eq_true, beq_iff_eq, List.cons.injEq, ih]



section
variable {w : World} {b : Nat} {s : ByteArray} {p : Nat} {e : Int}

theorem number_err (h : IsReader w b s p e) (he : e ≠ 0) (n : Int) :
    Calls Try.prog 12 #[.pointer (some ⟨b, 0, none⟩), .int .i64 n] w fun x w' => x = .returned (.int .u64 0) ∧ IsReader w' b s p e ∧ Only b w w' := by
  have hn := number_any h n
  rw [numF_err he] at hn
  exact hn

theorem number_ok (h : IsReader w b s p 0) (n : Nat) (hn : n ≤ 8) (hc : p + n ≤ s.size) :
    Calls Try.prog 12 #[.pointer (some ⟨b, 0, none⟩), .int .i64 n] w fun x w' => x = .returned (.int .u64 (le (part s p n))) ∧ IsReader w' b s (p + n) 0 ∧ Only b w w' := by
  have hx := number_any h n
  rw [numF_ok n hn hc] at hx
  exact hx













end
end Go.Proofs.Ytndfjjcflbpdnaa

namespace Go.Proofs.Ytndfjjcflbpdnaa
open Go.RowKit
set_option linter.unusedVariables false

/-- The length of slot j, whose lengths stand at q. -/
def longAt (s : ByteArray) (q j : Nat) : Nat := le (part s (q + 2 * j) 2)

/-- Where slot k begins. -/
def offAt (s : ByteArray) (q n : Nat) : Nat → Nat
  | 0 => q + 2 * n
  | k + 1 => offAt s q n k + longAt s q k

theorem offAt_mono (s : ByteArray) (q n : Nat) {k m : Nat} (h : k ≤ m) : offAt s q n k ≤ offAt s q n m := by
  induction m with
  | zero => rw [show k = 0 from by omega]; exact Nat.le_refl _
  | succ m ih =>
    by_cases e : k = m + 1
    · rw [e]; exact Nat.le_refl _
    · have := ih (by omega); simp only [offAt]; omega

/-- The slots. -/
def slotAt (s : ByteArray) (q n j : Nat) : ByteArray := ⟨(part s (offAt s q n j) (longAt s q j)).toArray⟩
def slotsAt (s : ByteArray) (q n : Nat) : List ByteArray := (List.range n).map (slotAt s q n)

theorem slotsAt_length (s : ByteArray) (q n : Nat) : (slotsAt s q n).length = n := by simp [slotsAt]

theorem longAt_lt (s : ByteArray) (q j : Nat) (h : q + 2 * j + 2 ≤ s.size) : longAt s q j < 65536 := by
  have := le_lt_of (l := part s (q + 2 * j) 2) (n := 2) (by rw [part_length (by omega)]; omega)
  exact this

section
variable {w : World} {b : Nat} {s : ByteArray} {p : Nat} {e : Int}

theorem IsReader.alloc {w : World} (h : IsReader w b s p e) (o : Obj) : IsReader (w.alloc o) b s p e := h.below ((Below.refl _ _).alloc (Nat.le_refl _) _)



end
end Go.Proofs.Ytndfjjcflbpdnaa

namespace Go.Proofs.Ytndfjjcflbpdnaa
open Go.RowKit
set_option linter.unusedVariables false

theorem RowV.strs {w : World} {b : Nat} {L : List ByteArray} (hb : b < w.heap.size) (h : RowV w b L.length (fun j => .string (L.getD j ByteArray.empty))) : StrsAt w (some ⟨b, 0, none⟩) L :=
  .inr ⟨b, 0, rfl, hb, fun i hi => by have := (h i hi).1; simp only [Nat.zero_add]; rw [this]; show some (Value.string (L.getD i ByteArray.empty)) = _; rw [List.getD_eq_getElem?_getD, List.getElem?_eq_getElem hi]; rfl⟩

/-- The same, in a block from B on. -/
def StrsFrom (B : Nat) (w : World) (a : Option Addr) (L : List ByteArray) : Prop :=
  L = [] ∨ ∃ b o, a = some ⟨b, o, none⟩ ∧ B ≤ b ∧ b < w.heap.size ∧ ∀ i (hi : i < L.length), w.cell? ⟨b, o + i, none⟩ = some (.string L[i])

theorem StrsFrom.at {B : Nat} {w : World} {a : Option Addr} {L : List ByteArray} (h : StrsFrom B w a L) : StrsAt w a L := by
  rcases h with h | ⟨b, o, e, _, hb, hc⟩
  · exact .inl h
  · exact .inr ⟨b, o, e, hb, hc⟩

theorem StrsFrom.setOther {B : Nat} {w : World} {a : Option Addr} {L : List ByteArray} (h : StrsFrom B w a L) {k i : Nat} (hk : k < B) (v : Value) : StrsFrom B (w.setCell ⟨k, i, none⟩ v) a L := by
  rcases h with h | ⟨b, o, e, h1, hb, hc⟩
  · exact .inl h
  · refine .inr ⟨b, o, e, h1, by simpa using hb, fun j hj => ?_⟩
    rw [World.cell?_setCell_other _ _ _ _ (by intro q; have := congrArg Addr.block q; simp only at this; omega)]
    exact hc j hj

theorem StrsFrom.mono {B C : Nat} {w : World} {a : Option Addr} {L : List ByteArray} (h : StrsFrom B w a L) (hC : C ≤ B) : StrsFrom C w a L := by
  rcases h with h | ⟨b, o, e, h1, hb, hc⟩
  · exact .inl h
  · exact .inr ⟨b, o, e, by omega, hb, hc⟩

theorem StrsFrom.store5 {B : Nat} {w : World} {a : Option Addr} {L : List ByteArray} (h : StrsFrom B w a L) {b : Nat} (hb : b < B) (v0 v1 v2 v3 v4 : Value) :
    StrsFrom B (((((w.setCell ⟨b, 0, none⟩ v0).setCell ⟨b, 1, none⟩ v1).setCell ⟨b, 2, none⟩ v2).setCell ⟨b, 3, none⟩ v3).setCell ⟨b, 4, none⟩ v4) a L :=
  ((((h.setOther hb v0).setOther hb v1).setOther hb v2).setOther hb v3).setOther hb v4

theorem StrsFrom.below {B : Nat} {w w' : World} {a : Option Addr} {L : List ByteArray} (h : StrsFrom B w a L) (k : Below w.heap.size w w') : StrsFrom B w' a L := by
  rcases h with h | ⟨b, o, e, h1, hb, hc⟩
  · exact .inl h
  · exact .inr ⟨b, o, e, h1, Nat.lt_of_lt_of_le hb k.size, fun i hi => (k.cell (p := ⟨b, o + i, none⟩) hb).trans (hc i hi)⟩

theorem RowV.strsFrom {w : World} {b B : Nat} {L : List ByteArray} (hB : B ≤ b) (hb : b < w.heap.size) (h : RowV w b L.length (fun j => .string (L.getD j ByteArray.empty))) : StrsFrom B w (some ⟨b, 0, none⟩) L := by
  rcases h.strs hb with h | ⟨b', o, e, hb', hc⟩
  · exact .inl h
  · cases e; exact .inr ⟨b, 0, rfl, hB, hb, hc⟩

/-- Five values, by their places. -/
def five (v0 v1 v2 v3 v4 : Value) : Nat → Value
  | 0 => v0
  | 1 => v1
  | 2 => v2
  | 3 => v3
  | _ => v4

theorem RowV.five_new (w : World) (v0 v1 v2 v3 v4 : Value) (T : TypeId) : RowV (w.alloc (.cells #[v0, v1, v2, v3, v4] T)) w.heap.size 5 (five v0 v1 v2 v3 v4) := by
  intro j hj
  match j, hj with
  | 0, _ => exact ⟨by simp [five], by simp⟩
  | 1, _ => exact ⟨by simp [five], by simp⟩
  | 2, _ => exact ⟨by simp [five], by simp⟩
  | 3, _ => exact ⟨by simp [five], by simp⟩
  | 4, _ => exact ⟨by simp [five], by simp⟩

theorem RowV.set0 {w : World} {b : Nat} {v0 v1 v2 v3 v4 : Value} (h : RowV w b 5 (five v0 v1 v2 v3 v4)) (v : Value) : RowV (w.setCell ⟨b, 0, none⟩ v) b 5 (five v v1 v2 v3 v4) :=
  (h.set (k := 0) (by omega) v).congr fun j hj => by match j, hj with | 0, _ => rfl | 1, _ => rfl | 2, _ => rfl | 3, _ => rfl | 4, _ => rfl
theorem RowV.set1 {w : World} {b : Nat} {v0 v1 v2 v3 v4 : Value} (h : RowV w b 5 (five v0 v1 v2 v3 v4)) (v : Value) : RowV (w.setCell ⟨b, 1, none⟩ v) b 5 (five v0 v v2 v3 v4) :=
  (h.set (k := 1) (by omega) v).congr fun j hj => by match j, hj with | 0, _ => rfl | 1, _ => rfl | 2, _ => rfl | 3, _ => rfl | 4, _ => rfl
theorem RowV.set2 {w : World} {b : Nat} {v0 v1 v2 v3 v4 : Value} (h : RowV w b 5 (five v0 v1 v2 v3 v4)) (v : Value) : RowV (w.setCell ⟨b, 2, none⟩ v) b 5 (five v0 v1 v v3 v4) :=
  (h.set (k := 2) (by omega) v).congr fun j hj => by match j, hj with | 0, _ => rfl | 1, _ => rfl | 2, _ => rfl | 3, _ => rfl | 4, _ => rfl
theorem RowV.set3 {w : World} {b : Nat} {v0 v1 v2 v3 v4 : Value} (h : RowV w b 5 (five v0 v1 v2 v3 v4)) (v : Value) : RowV (w.setCell ⟨b, 3, none⟩ v) b 5 (five v0 v1 v2 v v4) :=
  (h.set (k := 3) (by omega) v).congr fun j hj => by match j, hj with | 0, _ => rfl | 1, _ => rfl | 2, _ => rfl | 3, _ => rfl | 4, _ => rfl
theorem RowV.set4 {w : World} {b : Nat} {v0 v1 v2 v3 v4 : Value} (h : RowV w b 5 (five v0 v1 v2 v3 v4)) (v : Value) : RowV (w.setCell ⟨b, 4, none⟩ v) b 5 (five v0 v1 v2 v3 v) :=
  (h.set (k := 4) (by omega) v).congr fun j hj => by match j, hj with | 0, _ => rfl | 1, _ => rfl | 2, _ => rfl | 3, _ => rfl | 4, _ => rfl

theorem RowV.cells5 {w : World} {b : Nat} {v0 v1 v2 v3 v4 : Value} (h : RowV w b 5 (five v0 v1 v2 v3 v4)) :
    w.cell? ⟨b, 0, none⟩ = some v0 ∧ w.cell? ⟨b, 1, none⟩ = some v1 ∧ w.cell? ⟨b, 2, none⟩ = some v2 ∧ w.cell? ⟨b, 3, none⟩ = some v3 ∧ w.cell? ⟨b, 4, none⟩ = some v4 :=
  ⟨(h 0 (by omega)).1, (h 1 (by omega)).1, (h 2 (by omega)).1, (h 3 (by omega)).1, (h 4 (by omega)).1⟩
theorem RowV.open5 {w : World} {b : Nat} {v0 v1 v2 v3 v4 : Value} (h : RowV w b 5 (five v0 v1 v2 v3 v4)) :
    w.frozen? ⟨b, 0, none⟩ = false ∧ w.frozen? ⟨b, 1, none⟩ = false ∧ w.frozen? ⟨b, 2, none⟩ = false ∧ w.frozen? ⟨b, 3, none⟩ = false ∧ w.frozen? ⟨b, 4, none⟩ = false :=
  ⟨(h 0 (by omega)).2, (h 1 (by omega)).2, (h 2 (by omega)).2, (h 3 (by omega)).2, (h 4 (by omega)).2⟩

/-- A whole page is stored into block b. -/
def store5 (w : World) (b : Nat) (v0 v1 v2 v3 v4 : Value) : World := ((((w.setCell ⟨b, 0, none⟩ v0).setCell ⟨b, 1, none⟩ v1).setCell ⟨b, 2, none⟩ v2).setCell ⟨b, 3, none⟩ v3).setCell ⟨b, 4, none⟩ v4

theorem RowV.set5 {w : World} {b : Nat} {u0 u1 u2 u3 u4 : Value} (h : RowV w b 5 (five u0 u1 u2 u3 u4)) (v0 v1 v2 v3 v4 : Value) : RowV (store5 w b v0 v1 v2 v3 v4) b 5 (five v0 v1 v2 v3 v4) :=
  ((((h.set0 v0).set1 v1).set2 v2).set3 v3).set4 v4

theorem RowV.set5_other {w : World} {b k N : Nat} {f : Nat → Value} (h : RowV w k N f) (hk : b ≠ k) (v0 v1 v2 v3 v4 : Value) : RowV (store5 w b v0 v1 v2 v3 v4) k N f :=
  ((((h.set_other hk v0).set_other hk v1).set_other hk v2).set_other hk v3).set_other hk v4

theorem below_set5 {B : Nat} {w w' : World} (h : Below B w w') {b : Nat} (hb : B ≤ b) (v0 v1 v2 v3 v4 : Value) : Below B w (store5 w' b v0 v1 v2 v3 v4) :=
  ((((h.setCell (p := ⟨b, 0, none⟩) hb v0).setCell (p := ⟨b, 1, none⟩) hb v1).setCell (p := ⟨b, 2, none⟩) hb v2).setCell (p := ⟨b, 3, none⟩) hb v3).setCell (p := ⟨b, 4, none⟩) hb v4

theorem store5_size (w : World) (b : Nat) (v0 v1 v2 v3 v4 : Value) : (store5 w b v0 v1 v2 v3 v4).heap.size = w.heap.size := by simp [store5]



theorem IsReader.new {s : ByteArray} {w : World} {t : TypeId} (hs : s.size ≤ 281474976710656) : IsReader (w.alloc (.cells #[.string s, .int .i64 0, .int .i64 0] t)) w.heap.size s 0 0 :=
  ⟨by simp, by simp, by simp, by simp, by simp, by omega, hs, by simp⟩



end Go.Proofs.Ytndfjjcflbpdnaa

namespace Go.Proofs.Ytndfjjcflbpdnaa
open Go.RowKit
set_option linter.unusedVariables false

def pHn (s : ByteArray) : Nat := le (part s 13 1)
def pN (s : ByteArray) : Nat := le (part s (14 + pHn s) 1)
def pOff (s : ByteArray) : Nat := offAt s (15 + pHn s) (pN s) (pN s)
/-- Do the lengths fit? -/
def pFit (s : ByteArray) : Prop := pHn s ≤ 32 ∧ pN s ≤ 64 ∧ pOff s ≤ 500
/-- Is it a page's bytes? -/
def parseOk (s : ByteArray) : Prop := pFit s ∧ zerosB (part s (pOff s) (500 - pOff s)) = true
/-- The page that it is then. -/
def parsed (s : ByteArray) : SheetV := ⟨le (part s 8 4), le (part s 0 8), (le (part s 12 1) : Nat), ⟨(part s 14 (pHn s)).toArray⟩, slotsAt s (15 + pHn s) (pN s)⟩
def sheet0 : SheetV := ⟨0, 0, 0, ⟨#[]⟩, []⟩

theorem slotsAt_getD (s : ByteArray) (q n j : Nat) (hj : j < n) : (slotsAt s q n).getD j ByteArray.empty = slotAt s q n j := by
  rw [List.getD_eq_getElem?_getD, List.getElem?_eq_getElem (by rw [slotsAt_length]; exact hj)]; simp [slotsAt]



def parseB (s : ByteArray) : Bool := decide (pHn s ≤ 32) && decide (pN s ≤ 64) && decide (pOff s ≤ 500) && zerosB (part s (pOff s) (500 - pOff s))
theorem parseB_iff (s : ByteArray) : parseB s = true ↔ parseOk s := by unfold parseB parseOk pFit; simp [and_assoc]

/-- What lies between the sum and the LSN at the end. -/
def cutB (s : ByteArray) : ByteArray := s.extract 4 504

/-- The error of Decode. -/
def decE (s : ByteArray) : Int :=
  if s.size < 512 then 4 else if 512 < s.size then 5 else if zerosB s.data.toList = true then 0 else if s.extract 504 512 ≠ s.extract 4 12 then 34
  else if s.extract 0 4 ≠ ⟨(putL (crcSum 0 (s.extract 4 512).data.toList) 4).toArray⟩ then 32 else if parseB (cutB s) = true then 0 else 6

/-- The page of Decode. -/
def decP (s : ByteArray) : SheetV := if decE s = 0 ∧ zerosB s.data.toList = false then parsed (cutB s) else sheet0

theorem str_ne {a b : ByteArray} (h : a ≠ b) : (a.toList == b.toList) = false := by
  rw [beq_eq_false_iff_ne, ByteArray.toList_eq, ByteArray.toList_eq]
  exact fun e => h (Go.WideShapes.bytes_inj e)

theorem str_eq {a b : ByteArray} (h : a = b) : (a.toList == b.toList) = true := by rw [h]; simp











end Go.Proofs.Ytndfjjcflbpdnaa

namespace Go.Proofs.Ytndfjjcflbpdnaa
open Go.RowKit
set_option linter.unusedVariables false





end Go.Proofs.Ytndfjjcflbpdnaa

namespace Go.Proofs.Ytndfjjcflbpdnaa
open Go.RowKit
set_option linter.unusedVariables false

theorem part_at {s : ByteArray} {pre mid post : List UInt8} (h : s.data.toList = pre ++ (mid ++ post)) {a n : Nat} (ha : a = pre.length) (hn : n = mid.length) : part s a n = mid := by
  subst ha hn; unfold part; rw [h]; simp

theorem extract_at {s : ByteArray} {pre mid post : List UInt8} (h : s.data.toList = pre ++ (mid ++ post)) {a b : Nat} (ha : a = pre.length) (hb : b = a + mid.length) : s.extract a b = ⟨mid.toArray⟩ := by
  subst hb; rw [← part_extract, part_at h ha rfl]

/-- A page that Encode takes. -/
structure SheetV.Fits (p : SheetV) : Prop where
  num : p.num < 4294967296
  lsn : p.lsn < 18446744073709551616
  kind0 : 0 ≤ p.kind
  kind1 : p.kind ≤ 255
  head : p.head.size ≤ 32
  len : p.slots.length ≤ 64
  fits : p.head.size + slotSum p.slots ≤ 485

theorem crcz0 : crcL 4294967295 (List.replicate 64 0) = 4231468184 := by decide +kernel
theorem crcz1 : crcL 4231468184 (List.replicate 64 0) = 4158167844 := by decide +kernel
theorem crcz2 : crcL 4158167844 (List.replicate 64 0) = 2345306063 := by decide +kernel
theorem crcz3 : crcL 2345306063 (List.replicate 64 0) = 1200442991 := by decide +kernel
theorem crcz4 : crcL 1200442991 (List.replicate 64 0) = 64332339 := by decide +kernel
theorem crcz5 : crcL 64332339 (List.replicate 64 0) = 1158271177 := by decide +kernel
theorem crcz6 : crcL 1158271177 (List.replicate 64 0) = 3425213895 := by decide +kernel
theorem crcz7 : crcL 3425213895 (List.replicate 60 0) = 329799228 := by decide +kernel
theorem crcL_rep {n : Nat} (r a b : Nat) (h : n = a + b) : crcL r (List.replicate n 0) = crcL (crcL r (List.replicate a 0)) (List.replicate b 0) := by rw [h, ← List.replicate_append_replicate, crcL_append]

theorem crc_zeros_of (n : Nat) (h : n = 508) : crcL 4294967295 (List.replicate n 0) = 329799228 := by
  rw [crcL_rep 4294967295 64 444 h, crcz0, crcL_rep 4231468184 64 380 (by omega), crcz1, crcL_rep 4158167844 64 316 (by omega), crcz2, crcL_rep 2345306063 64 252 (by omega), crcz3,
    crcL_rep 1200442991 64 188 (by omega), crcz4, crcL_rep 64332339 64 124 (by omega), crcz5, crcL_rep 1158271177 64 60 (by omega), crcz6, crcz7]

theorem crc_zeros_ne (n : Nat) (h : n = 508) : crcSum 0 (List.replicate n 0) ≠ 0 := by
  unfold crcSum
  rw [Nat.sub_zero, crc_zeros_of n h]
  omega

theorem putL_zero_of {n k : Nat} (h : putL n k = List.replicate k 0) (hn : n < 2 ^ (8 * k)) : n = 0 := by
  have e := le_putL n k
  rw [h, Nat.mod_eq_of_lt hn] at e
  rw [← e]
  have : ∀ m, le (List.replicate m 0) = 0 := by
    intro m
    induction m with
    | zero => rfl
    | succ m ih => rw [List.replicate_succ]; simp [le, ih]
  exact this k

theorem encL_zeros (p : SheetV) (h : p.Fits) : zerosB (encL p) = false := by
  rw [Bool.eq_false_iff]
  intro hz
  have h1 := (zerosB_iff _).1 hz
  rw [encL_length p h.fits] at h1
  unfold encL at h1
  have hr : restL p = List.replicate 508 0 := by
    have := congrArg (List.drop 4) h1
    rw [List.drop_append_of_le_length (by rw [putL_length]; omega), List.drop_of_length_le (by rw [putL_length]; omega), List.nil_append, List.drop_replicate] at this
    exact this
  have hc : putL (crcSum 0 (restL p)) 4 = List.replicate 4 0 := by
    have := congrArg (List.take 4) h1
    rw [List.take_append_of_le_length (by rw [putL_length]; omega), List.take_of_length_le (by rw [putL_length]; omega), List.take_replicate] at this
    exact this
  have := putL_zero_of hc (by have := crcSum_lt 0 (restL p); omega)
  rw [hr] at this
  exact crc_zeros_ne _ rfl this

section
variable (p : SheetV)

/-- What stands from the LSN to the LSN at the end. -/
def midL : List UInt8 := bodyL p ++ List.replicate (485 - p.head.size - slotSum p.slots) 0

theorem enc_size (h : p.Fits) : (ByteArray.mk (encL p).toArray).size = 512 := by rw [bytes_size]; exact encL_length p h.fits

theorem enc_data : (ByteArray.mk (encL p).toArray).data.toList = encL p := by simp

theorem midL_length (h : p.Fits) : (midL p).length = 500 := by
  have := h.fits
  simp only [midL, List.length_append, bodyL_length, List.length_replicate]; omega

theorem enc_cut (h : p.Fits) : cutB ⟨(encL p).toArray⟩ = ⟨(midL p).toArray⟩ := by
  refine extract_at (pre := putL (crcSum 0 (restL p)) 4) (post := putL p.lsn 8) ?_ (by rw [putL_length]) (by rw [midL_length p h])
  rw [enc_data]; rfl

theorem enc_rest (h : p.Fits) : (ByteArray.mk (encL p).toArray).extract 4 512 = ⟨(restL p).toArray⟩ := by
  refine extract_at (pre := putL (crcSum 0 (restL p)) 4) (post := []) ?_ (by rw [putL_length]) (by rw [restL_length p h.fits])
  rw [enc_data, List.append_nil]; rfl

theorem enc_sum (h : p.Fits) : (ByteArray.mk (encL p).toArray).extract 0 4 = ⟨(putL (crcSum 0 (restL p)) 4).toArray⟩ := by
  refine extract_at (pre := []) (post := restL p) ?_ rfl (by rw [putL_length])
  rw [enc_data]; rfl

theorem enc_tail (h : p.Fits) : (ByteArray.mk (encL p).toArray).extract 504 512 = ⟨(putL p.lsn 8).toArray⟩ := by
  refine extract_at (pre := putL (crcSum 0 (restL p)) 4 ++ midL p) (post := []) ?_ (by rw [List.length_append, putL_length, midL_length p h]) (by rw [putL_length])
  rw [enc_data, List.append_nil, List.append_assoc]; rfl

theorem enc_lsn (h : p.Fits) : (ByteArray.mk (encL p).toArray).extract 4 12 = ⟨(putL p.lsn 8).toArray⟩ := by
  refine extract_at (pre := putL (crcSum 0 (restL p)) 4) (post := (restL p).drop 8) ?_ (by rw [putL_length]) (by rw [putL_length])
  rw [enc_data]
  have : restL p = putL p.lsn 8 ++ (restL p).drop 8 := by
    unfold restL bodyL
    simp only [List.append_assoc]
    rw [List.drop_left' (by rw [putL_length])]
  rw [← this]; rfl
end

end Go.Proofs.Ytndfjjcflbpdnaa

namespace Go.Proofs.Ytndfjjcflbpdnaa
open Go.RowKit Go.Sort
set_option linter.unusedVariables false

theorem mixed : Try.prog.follows .mixedOrders = true := by kernel_rfl



/-- Are two pages the same but for the LSN? -/
def sameB (p q : SheetV) : Bool := decide (p.num = q.num ∧ p.kind = q.kind ∧ p.head = q.head ∧ p.slots = q.slots)



end Go.Proofs.Ytndfjjcflbpdnaa

namespace Go.Proofs.Ytndfjjcflbpdnaa
open Go.RowKit
set_option linter.unusedVariables false

/-- So many zeros stand behind the slots. -/
def zerosL (p : SheetV) : List UInt8 := List.replicate (485 - p.head.size - slotSum p.slots) 0

/-- The bytes between, as a text. -/
def midB (p : SheetV) : ByteArray := ⟨(midL p).toArray⟩

section
variable (p : SheetV)

theorem mid_data : (midB p).data.toList = putL p.lsn 8 ++ (putL p.num 4 ++ (putL p.kind.toNat 1 ++ (putL p.head.size 1 ++ (p.head.data.toList ++ (putL p.slots.length 1 ++ (slotLens p.slots ++ (slotBytes p.slots ++ zerosL p))))))) := by
  simp [midB, midL, bodyL, zerosL]

theorem head_len : p.head.data.toList.length = p.head.size := by simp

theorem mid_lsn (h : p.Fits) : le (part (midB p) 0 8) = p.lsn := by
  have e := part_at (s := midB p) (pre := []) (mid := putL p.lsn 8) (a := 0) (n := 8) (mid_data p) rfl (by rw [putL_length])
  rw [e, le_putL]
  exact Nat.mod_eq_of_lt h.lsn

theorem mid_num (h : p.Fits) : le (part (midB p) 8 4) = p.num := by
  rw [part_at (pre := putL p.lsn 8) (mid_data p) (by rw [putL_length]) (by rw [putL_length]), le_putL]
  exact Nat.mod_eq_of_lt h.num

theorem mid_kind (h : p.Fits) : le (part (midB p) 12 1) = p.kind.toNat := by
  rw [part_at (pre := putL p.lsn 8 ++ putL p.num 4) (by rw [mid_data, List.append_assoc]) (by simp [putL_length]) (by rw [putL_length]), le_putL]
  exact Nat.mod_eq_of_lt (by have := h.kind0; have := h.kind1; omega)

theorem mid_hn (h : p.Fits) : pHn (midB p) = p.head.size := by
  unfold pHn
  rw [part_at (pre := putL p.lsn 8 ++ putL p.num 4 ++ putL p.kind.toNat 1) (by rw [mid_data, List.append_assoc, List.append_assoc]) (by simp [putL_length]) (by rw [putL_length]), le_putL]
  exact Nat.mod_eq_of_lt (by have := h.head; omega)

theorem mid_head (h : p.Fits) : part (midB p) 14 (pHn (midB p)) = p.head.data.toList := by
  rw [mid_hn p h]
  exact part_at (pre := putL p.lsn 8 ++ putL p.num 4 ++ putL p.kind.toNat 1 ++ putL p.head.size 1) (mid := p.head.data.toList) (post := putL p.slots.length 1 ++ (slotLens p.slots ++ (slotBytes p.slots ++ zerosL p))) (by rw [mid_data]; simp only [List.append_assoc]) (by simp [putL_length]) (by rw [head_len])

theorem mid_n (h : p.Fits) : pN (midB p) = p.slots.length := by
  unfold pN
  rw [mid_hn p h, part_at (pre := putL p.lsn 8 ++ putL p.num 4 ++ putL p.kind.toNat 1 ++ putL p.head.size 1 ++ p.head.data.toList) (mid := putL p.slots.length 1) (post := slotLens p.slots ++ (slotBytes p.slots ++ zerosL p)) (by rw [mid_data]; simp only [List.append_assoc]) (by simp only [List.length_append, putL_length, head_len]) (by rw [putL_length]), le_putL]
  exact Nat.mod_eq_of_lt (by have := h.len; omega)

theorem slot_lt (h : p.Fits) (j : Nat) (hj : j < p.slots.length) : p.slots[j].size < 65536 := by
  have := slotSum_at p.slots j hj
  have := h.fits
  omega

theorem mid_long (h : p.Fits) (j : Nat) (hj : j < p.slots.length) : longAt (midB p) (15 + p.head.size) j = p.slots[j].size := by
  unfold longAt
  have e : slotLens p.slots = slotLens (p.slots.take j) ++ (putL p.slots[j].size 2 ++ slotLens (p.slots.drop (j + 1))) := by
    conv => lhs; rw [← List.take_append_drop j p.slots, slotLens_append, List.drop_eq_getElem_cons hj]
    rfl
  rw [part_at (pre := putL p.lsn 8 ++ putL p.num 4 ++ putL p.kind.toNat 1 ++ putL p.head.size 1 ++ p.head.data.toList ++ putL p.slots.length 1 ++ slotLens (p.slots.take j))
    (mid := putL p.slots[j].size 2) (post := slotLens (p.slots.drop (j + 1)) ++ (slotBytes p.slots ++ zerosL p)) (by rw [mid_data, e]; simp only [List.append_assoc])
    (by simp only [List.length_append, putL_length, head_len, slotLens_length, List.length_take]; omega) (by rw [putL_length]), le_putL]
  exact Nat.mod_eq_of_lt (slot_lt p h j hj)

theorem slotBytes_len_snoc (L : List ByteArray) (k : Nat) (h : k < L.length) : (slotBytes (L.take (k + 1))).length = (slotBytes (L.take k)).length + L[k].size := by
  rw [slotBytes_snoc L k h, List.length_append]; simp

theorem mid_off (h : p.Fits) (k : Nat) (hk : k ≤ p.slots.length) : offAt (midB p) (15 + p.head.size) p.slots.length k = 15 + p.head.size + 2 * p.slots.length + (slotBytes (p.slots.take k)).length := by
  induction k with
  | zero => simp [offAt, slotBytes]
  | succ k ih =>
    simp only [offAt]
    rw [ih (by omega), mid_long p h k (by omega), slotBytes_len_snoc p.slots k (by omega)]
    omega

theorem mid_slot (h : p.Fits) (j : Nat) (hj : j < p.slots.length) : slotAt (midB p) (15 + p.head.size) p.slots.length j = p.slots[j] := by
  unfold slotAt
  rw [mid_off p h j (by omega), mid_long p h j hj]
  have e : slotBytes p.slots = slotBytes (p.slots.take j) ++ (p.slots[j].data.toList ++ slotBytes (p.slots.drop (j + 1))) := by
    conv => lhs; rw [← List.take_append_drop j p.slots, slotBytes_append, List.drop_eq_getElem_cons hj]
    rfl
  rw [part_at (pre := putL p.lsn 8 ++ putL p.num 4 ++ putL p.kind.toNat 1 ++ putL p.head.size 1 ++ p.head.data.toList ++ putL p.slots.length 1 ++ slotLens p.slots ++ slotBytes (p.slots.take j))
    (mid := p.slots[j].data.toList) (post := slotBytes (p.slots.drop (j + 1)) ++ zerosL p) (by rw [mid_data, e]; simp only [List.append_assoc])
    (by simp only [List.length_append, putL_length, head_len, slotLens_length]; omega) (by simp), bytes_self]

theorem mid_poff (h : p.Fits) : pOff (midB p) = 15 + p.head.size + slotSum p.slots := by
  unfold pOff
  rw [mid_hn p h, mid_n p h, mid_off p h _ (Nat.le_refl _), List.take_length]
  have := slot_lengths p.slots
  have := slotLens_length p.slots
  omega

theorem mid_slots (h : p.Fits) : slotsAt (midB p) (15 + pHn (midB p)) (pN (midB p)) = p.slots := by
  rw [mid_hn p h, mid_n p h]
  apply List.ext_getElem
  · rw [slotsAt_length]
  · intro j h1 h2
    simp only [slotsAt, List.getElem_map, List.getElem_range]
    exact mid_slot p h j h2

theorem mid_parsed (h : p.Fits) : parsed (midB p) = p := by
  unfold parsed
  rw [mid_num p h, mid_lsn p h, mid_kind p h, mid_head p h, mid_slots p h, bytes_self, Int.toNat_of_nonneg h.kind0]

theorem mid_ok (h : p.Fits) : parseOk (midB p) := by
  have hf := h.fits
  refine ⟨⟨by rw [mid_hn p h]; exact h.head, by rw [mid_n p h]; exact h.len, by rw [mid_poff p h]; omega⟩, ?_⟩
  rw [mid_poff p h, part_at (pre := putL p.lsn 8 ++ putL p.num 4 ++ putL p.kind.toNat 1 ++ putL p.head.size 1 ++ p.head.data.toList ++ putL p.slots.length 1 ++ slotLens p.slots ++ slotBytes p.slots)
    (mid := zerosL p) (post := []) (by rw [mid_data, List.append_nil]; simp only [List.append_assoc])
    (by have := slot_lengths p.slots; simp only [List.length_append, putL_length, head_len]; omega) (by simp [zerosL]; omega)]
  rw [zerosB_iff]; simp [zerosL]

theorem dec_enc (h : p.Fits) : decE ⟨(encL p).toArray⟩ = 0 ∧ decP ⟨(encL p).toArray⟩ = p := by
  have h1 := enc_size p h
  have hz : zerosB (ByteArray.mk (encL p).toArray).data.toList = false := by rw [enc_data]; exact encL_zeros p h
  have hE : decE ⟨(encL p).toArray⟩ = 0 := by
    unfold decE
    rw [if_neg (by omega), if_neg (by omega), if_neg (by rw [hz]; simp), if_neg (by rw [enc_tail p h, enc_lsn p h]; simp), if_neg (by rw [enc_sum p h, enc_rest p h]; simp),
      if_pos (by rw [parseB_iff, enc_cut p h]; exact mid_ok p h)]
  refine ⟨hE, ?_⟩
  unfold decP
  rw [if_pos ⟨hE, hz⟩, enc_cut p h]
  exact mid_parsed p h

end
end Go.Proofs.Ytndfjjcflbpdnaa

namespace Go.Proofs.Ytndfjjcflbpdnaa
open Go.RowKit Go.Sort
set_option linter.unusedVariables false



/-- 'string([]byte{byte(k)}) + h'. -/
def kindS (k : Int) (h : ByteArray) : ByteArray := ⟨#[UInt8.ofNat (k % 256).toNat]⟩ ++ h

theorem one_byteI {P : Program} (w : World) (k : Int) (src dst el : TypeId) (hs : P.underlying src = some (.slice el)) (he : P.underlying el = some (.int .u8)) (hd : P.underlying dst = some .string) :
    (convert src dst (.slice (some ⟨w.heap.size, 0, none⟩) 1 1)).run P (w.alloc (.cells #[.int .u8 (k % 256)] el)) = .ok (.string ⟨#[UInt8.ofNat (k % 256).toNat]⟩) (w.alloc (.cells #[.int .u8 (k % 256)] el)) := by
  refine RowU.toString (N := 1) (f := fun _ => k % 256) (fun j hj => ?_) [UInt8.ofNat (k % 256).toNat] rfl (fun j hj => ?_) src dst el hs he hd
  · obtain rfl : j = 0 := by omega
    exact ⟨by simp, by simp⟩
  · obtain rfl : j = 0 := by simpa using hj
    simp; omega







end Go.Proofs.Ytndfjjcflbpdnaa

namespace Go.Proofs.Ytndfjjcflbpdnaa
open Go.RowKit Go.Sort
set_option linter.unusedVariables false



end Go.Proofs.Ytndfjjcflbpdnaa

namespace Go.Proofs.Ytndfjjcflbpdnaa
open Go.RowKit Go.Sort
set_option linter.unusedVariables false

theorem sheet0_val (a : Option Addr) (c : Nat) : sheet0.val a c = .agg #[.int .u32 0, .int .u64 0, .int .i64 0, .string ⟨#[]⟩, .slice a 0 c] := rfl



/-- The bytes of Encode. -/
def encS (p : SheetV) : ByteArray := if encE p = 0 then ⟨(encL p).toArray⟩ else ⟨#[]⟩

theorem encE_fits {p : SheetV} {w : World} {a : Option Addr} (h : p.Ok w a) : encE p = 0 ↔ p.Fits := by
  unfold encE
  constructor
  · intro e
    split at e
    · cases e
    · split at e
      · cases e
      · rename_i h1 h2
        exact ⟨h.num, h.lsn, by omega, by omega, by omega, by omega, by omega⟩
  · intro f
    have := f.kind0; have := f.kind1; have := f.head; have := f.len; have := f.fits
    rw [if_neg (by omega), if_neg (by omega)]



/-- The page of awake. -/
def sheetA : SheetV := ⟨3, 0, 2, ⟨#[]⟩, [⟨#[97]⟩]⟩

theorem sheetA_fits : sheetA.Fits := ⟨by decide, by decide, by decide, by decide, by decide, by decide, by decide⟩



end Go.Proofs.Ytndfjjcflbpdnaa

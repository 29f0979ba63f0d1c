/-
  Encode and Decode whole; girderlaw03.awake.
-/
import Derived.Test.YtdkjbnnldbmkmaaPageEncOk
import Derived.Test.YtdkjbnnldbmkmaaPageMath2
import Derived.Test.YtdkjbnnldbmkmaaPageSame3
namespace Go.Proofs.Ytdkjbnnldbmkmaa
open Go.RowKit Go.Sort
set_option linter.unusedVariables false

theorem sheet0_val (a : Option Addr) (c : Nat) : sheet0.val a c = .agg #[.int .u32 0, .int .u64 0, .int .i64 0, .string ⟨#[]⟩, .slice a 0 c] := rfl



/-- The bytes of Encode. -/
def encS (p : SheetV) : ByteArray := if encE p = 0 then ⟨(encL p).toArray⟩ else ⟨#[]⟩

theorem encE_fits {p : SheetV} {w : World} {a : Option Addr} (h : p.Ok w a) : encE p = 0 ↔ p.Fits := by
  unfold encE
  constructor
  · intro e
    split at e
    · cases e
    · split at e
      · cases e
      · rename_i h1 h2
        exact ⟨h.num, h.lsn, by omega, by omega, by omega, by omega, by omega⟩
  · intro f
    have := f.kind0; have := f.kind1; have := f.head; have := f.len; have := f.fits
    rw [if_neg (by omega), if_neg (by omega)]



/-- The page of awake. -/
def sheetA : SheetV := ⟨3, 0, 2, ⟨#[]⟩, [⟨#[97]⟩]⟩

theorem sheetA_fits : sheetA.Fits := ⟨by decide, by decide, by decide, by decide, by decide, by decide, by decide⟩



end Go.Proofs.Ytdkjbnnldbmkmaa

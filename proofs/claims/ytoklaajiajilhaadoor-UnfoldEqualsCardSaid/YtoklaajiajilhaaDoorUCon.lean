/- What layer 8's statements ask of the code: the contracts of its two functions. dig: a number's digits; L: what must stand in memory (a table of the library's). -/
import Derived.Test.YtoklaajiajilhaaDoorULaw
import Derived.Test.YtoklaajiajilhaaDoorGTab
namespace Go.Proofs.YtoklaajiajilhaaDoor
open Go.RowKit

def InT (t : Ed) : Prop := (-9223372036854775808 ≤ t.1 ∧ t.1 ≤ 9223372036854775807) ∧ -9223372036854775808 ≤ t.2 ∧ t.2 ≤ 9223372036854775807
theorem inT_of {a b : Int} (h0 : -9223372036854775808 ≤ a) (h1 : a ≤ 9223372036854775807) (h2 : -9223372036854775808 ≤ b) (h3 : b ≤ 9223372036854775807) : InT (a, b) := ⟨⟨h0, h1⟩, h2, h3⟩
structure UC (dig : Int → List UInt8) (L : World → Prop) : Prop where
  keep : ∀ w w', L w → w.grownBy w' none → L w'
  text : ∀ (xs : List Nd) (v : Value) (t : Ed) (d : Int) (w : World), L w → Tbl w v xs → xs.length ≤ 1000 → InT t → Calls Tryd.prog 11 #[v, edV t, .int .i64 d] w fun e w' => e = .returned (.string ⟨(textA dig xs t d).toArray⟩) ∧ w.grownBy w' none
  equal : ∀ (xs : List Nd) (v : Value) (a b : Ed) (d : Int) (w : World), L w → Tbl w v xs → xs.length ≤ 1000 → InT a → InT b → Calls Tryd.prog 8 #[v, edV a, edV b, .int .i64 d] w fun e w' => e = .returned (.bool (equalA xs a b d)) ∧ w.grownBy w' none
theorem bytes_toList (l : List UInt8) : (⟨l.toArray⟩ : ByteArray).toList = l := by rw [ByteArray.toList_eq]
end Go.Proofs.YtoklaajiajilhaaDoor

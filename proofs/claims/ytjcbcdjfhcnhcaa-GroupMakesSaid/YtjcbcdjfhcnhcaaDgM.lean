/-
  Own text: a datagram in plain numbers.
-/
import Derived.Test.YtjcbcdjfhcnhcaaByteA
namespace Go.Proofs.Ytjcbcdjfhcnhcaa
open Go.RowKit

/-- A datagram in plain numbers. -/
structure Dg where
  kind : Int
  ses : Int
  seq : Int
  path : Int
  tick : Int
  A : Int
  B : Int
  K : Int
  M : Int
  ix : Int
  da : Option Addr
  dl : Nat
  dc : Nat
/-- As a value. -/
abbrev Dg.val (d : Dg) : Value := .agg #[.int .i64 d.kind, .int .u32 d.ses, .int .u32 d.seq, .int .i64 d.path, .int .u32 d.tick, .int .u32 d.A, .int .u32 d.B, .int .i64 d.K, .int .i64 d.M, .int .i64 d.ix, .slice d.da d.dl d.dc]
/-- The numbers fit their kinds. -/
structure Dg.fit (d : Dg) : Prop where
  kind : -9223372036854775808 ≤ d.kind ∧ d.kind ≤ 9223372036854775807
  path : -9223372036854775808 ≤ d.path ∧ d.path ≤ 9223372036854775807
  K : -9223372036854775808 ≤ d.K ∧ d.K ≤ 9223372036854775807
  M : -9223372036854775808 ≤ d.M ∧ d.M ≤ 9223372036854775807
  ix : -9223372036854775808 ≤ d.ix ∧ d.ix ≤ 9223372036854775807
  ses : 0 ≤ d.ses ∧ d.ses ≤ 4294967295
  seq : 0 ≤ d.seq ∧ d.seq ≤ 4294967295
  tick : 0 ≤ d.tick ∧ d.tick ≤ 4294967295
  A : 0 ≤ d.A ∧ d.A ≤ 4294967295
  B : 0 ≤ d.B ∧ d.B ≤ 4294967295
  le : d.dl ≤ d.dc
  max : d.dc ≤ 9223372036854775807
end Go.Proofs.Ytjcbcdjfhcnhcaa

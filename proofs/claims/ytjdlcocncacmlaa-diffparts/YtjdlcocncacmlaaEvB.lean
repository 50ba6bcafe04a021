/- Contract of Is of the reference: it says what the plain function says; nothing that was there is changed. Contracts of both where they are told otherwise. -/
import Derived.Test.YtjdlcocncacmlaaEvA
namespace Go.Proofs.Ytjdlcocncacmlaa
open Go.RowKit
set_option linter.unusedVariables false
theorem zero_dl {d : Dl} {q : Bool} (h : eqD d zD = q) (W : World) : (Op.equalIn 10000 42 d.v (.agg #[.int .i64 0, .int .u8 0, .int .i64 0, .int .i64 0, .int .i64 0, .string ⟨#[]⟩, .int .i64 0, .string ⟨#[]⟩, .int .i64 0, .string ⟨#[]⟩, .int .i64 0, .string ⟨#[]⟩])).run Try.prog W = .ok q W := equal_dl_at h W
theorem zero_th {d : Th} {q : Bool} (h : eqT d zT = q) (W : World) : (Op.equalIn 10000 40 d.v (.agg #[.int .i64 0, .int .i64 0, .int .i64 0, .int .i64 0, .string ⟨#[]⟩, .int .i64 0, .string ⟨#[]⟩, .int .i64 0, .string ⟨#[]⟩, .int .i64 0, .string ⟨#[]⟩])).run Try.prog W = .ok q W := equal_th_at h W
end Go.Proofs.Ytjdlcocncacmlaa

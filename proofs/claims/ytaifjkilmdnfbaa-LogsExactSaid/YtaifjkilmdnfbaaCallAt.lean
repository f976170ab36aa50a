import Derived.Test.YtaifjkilmdnfbaaMergeLgP
import Derived.Test.YtaifjkilmdnfbaaBeh0
/- A call as a value, as a block. -/
namespace Go.Proofs.Ytaifjkilmdnfbaa.Ss
open Go Go.RowKit Vl Kv Mem
@[reducible] def Cl.agg (c : Cl) : Value := .agg #[.int .i64 c.client, .int .i64 c.seq, .int .i64 c.cmd.kind, .string c.cmd.key, .int .i64 c.cmd.old.kind, .float .f64 c.cmd.old.num, .string c.cmd.old.text, .int .i64 c.cmd.val.kind, .float .f64 c.cmd.val.num, .string c.cmd.val.text]
def Cl.obj (c : Cl) : Obj := .cells #[.int .i64 c.client, .int .i64 c.seq, .int .i64 c.cmd.kind, .string c.cmd.key, .int .i64 c.cmd.old.kind, .float .f64 c.cmd.old.num, .string c.cmd.old.text, .int .i64 c.cmd.val.kind, .float .f64 c.cmd.val.num, .string c.cmd.val.text] 38
end Go.Proofs.Ytaifjkilmdnfbaa.Ss

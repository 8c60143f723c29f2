/-
  The iterator of impl.pieces: each round knows which piece comes.
-/
import Derived.Test.YtjleadlecdcdeaaPieces
import Derived.Test.YtjleadlecdcdeaaRng
namespace Go.Proofs.Ytjleadlecdcdeaa
set_option linter.unusedVariables false
open Go.RowKit Go.Shelf

theorem pieces_adm (n : Nat) (hn : 1 ≤ n) (Bs Bm : Nat) (m s : ByteArray) (full : List ByteArray) (hps : Pcs m s full) (hs : s.size < 4294967281) (hm1 : 1 ≤ m.size) (w : World)
    (hBs : Bs < w.heap.size) (hBm : Bm < w.heap.size) (hML : MaxLenAt w)
    (hcs : w.cell? ⟨Bs, 0, none⟩ = some (.string s)) (hcm : w.cell? ⟨Bm, 0, none⟩ = some (.string m)) :
    SeqAdm (fun _ => False) Fence.wide n Try.prog 76 #[.pointer (some ⟨Bs, 0, none⟩), .pointer (some ⟨Bm, 0, none⟩)] (fun x : ByteArray => #[Value.string x]) (Keep2 0 Bm) (fun pre x _ => pre ++ [x] <+: full) (fun ys => ys = full) (fun pre => pre <+: full) w := fun l J Jx W hW _ _ hY h0 =>
  pieces1_in n hn l Bs Bm m s full hps J Jx hs hm1 hY W ((hW.cell (p := ⟨Bs, 0, none⟩) hBs).trans hcs) ((hW.cell (p := ⟨Bm, 0, none⟩) hBm).trans hcm) (hML.after hW) h0
end Go.Proofs.Ytjleadlecdcdeaa

/- Package wire as its contracts say: the writer and the reader of the landed text. No conditions. -/
import Derived.Test.YtcnnfmooigfeiaaWireR2
namespace Go.Proofs.Ytcnnfmooigfeiaa
open Go.RowKit Go.WideShapes

noncomputable def wireApi : WireApi where
  IsW := IsWr
  ptrW := fun ⟨_, _, h, _⟩ => ⟨_, h⟩
  ltW := fun ⟨_, _, _, h, hF⟩ k hk => wr_lt h k ((hF k).1 hk)
  keepW := fun ⟨b, s, hv, h, hF⟩ hc hd => ⟨b, s, hv, wr_keep h hc (fun k hk => hd k ((hF k).2 hk)), hF⟩
  new := wr_new
  num := fun n h hn hl => wr_num n h hn hl
  int := fun n h hl => wr_int n h hl
  text := fun A n cap t h hl ht hn hnc hA hlie => wr_text A n cap t h hl ht hn hnc hA hlie
  bytes := fun h hl => wr_bytes h hl
  IsR := IsRd
  ptrR := fun ⟨_, h, _⟩ => ⟨_, h⟩
  ltR := fun ⟨_, _, h⟩ => rd_lt h
  keepR := fun ⟨b, hv, h⟩ hc hd => ⟨b, hv, rd_keep h hc hd⟩
  read := fun A n cap l hl hn hnc hA h => rd_read A n cap l hl hn hnc hA h
  rnum := fun h => rd_num h
  rint := fun h => rd_int h
  rtext := fun h => rd_text h
  done := fun h => rd_done h
end Go.Proofs.Ytcnnfmooigfeiaa

/-
  Own texts put together: MpDo. Own work.
-/
import Derived.Test.YtoppdelljjapoaaGreatG39
import Derived.Test.YtoppdelljjapoaaGreatG40
namespace Go.Proofs.YtoppdelljjapoaaGreat
section
open Go.RowKit Classical

theorem mg_do : MsgDo where
  may := fun hm hv => pmay_any hm hv
  item := fun w i hi => itemMay_any i hi w
  writes := fun hok hs => writesMay_any _ _ _ hs hok
  same := fun {w v u m k} hm hk hv hu => by
    obtain ⟨a1, c1, rfl, h1⟩ := hv
    obtain ⟨a2, c2, rfl, h2⟩ := hu
    exact psame_any m k a1 a2 m.wr.length c1 k.wr.length c2 w hm hk h1 h2
  enc := fun hm hv => penc_any hm hv
  dec := fun hl hx hL => pdec_any hl hx hL
end
end Go.Proofs.YtoppdelljjapoaaGreat

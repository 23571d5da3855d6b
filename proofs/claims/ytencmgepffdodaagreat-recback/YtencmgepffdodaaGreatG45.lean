/-
  Own texts put together: RpDo. Own work.
-/
import Derived.Test.YtencmgepffdodaaGreatG44
import Derived.Test.YtencmgepffdodaaGreatG31
namespace Go.Proofs.YtencmgepffdodaaGreat
section
open Go.RowKit Classical

theorem rc_do : RecDo where
  may := fun hm hv => pmay11_any hm hv
  same := fun {w v u m k} hm hk hv hu => by
    obtain ⟨a1, b1, c1, d1, rfl, h1, h3⟩ := hv
    obtain ⟨a2, b2, c2, d2, rfl, h2, h4⟩ := hu
    exact psame11_any m k a1 a2 b1 b2 _ _ _ _ _ _ _ _ w hm hk h1 h2 h3 h4
  enc := fun hm hv => penc11_any hm hv
  dec := fun hlen hx hL => pdec11_any hlen hx hL
end
end Go.Proofs.YtencmgepffdodaaGreat

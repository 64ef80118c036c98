"""Layer packing with bars; the operations stand in layerbars.layers."""

"""Short floating numbers in pairs: bfloat16 and half, made singles, and singles made short."""
